/- Of any two lists of points, PointsOrder answers true: texts stand as their points do; any world in which the package's variables are laid. -/
import Derived.Test.YtgjhingjheplfaaDoorPh
import Derived.Test.YtgjhingjheplfaaDoorPg
import Derived.Deep.RegionHeldLaw
import Derived.Test.YtgjhingjheplfaaDoorCards
import Derived.Test.YtgjhingjheplfaaDoorWb
/- Units in order: their bytes, and their points. The mathematics. -/
namespace Go.Proofs.YtgjhingjheplfaaDoor
open Go Go.RowKit Go.Kt Go.Shelf

def intLess : List Int → List Int → Bool
  | _, [] => false
  | [], _ :: _ => true
  | a :: x, b :: y => decide (a < b) || (a == b && intLess x y)
def u8s (l : List Int) : List UInt8 := l.map fun x => UInt8.ofNat x.toNat
theorem u8_lt {x y : Int} (hx : 0 ≤ x ∧ x < 256) (hy : 0 ≤ y ∧ y < 256) : decide (UInt8.ofNat x.toNat < UInt8.ofNat y.toNat) = decide (x < y) := by
  rw [Bool.eq_iff_iff]; simp [UInt8.lt_iff_toNat_lt]; omega
theorem u8_eq {x y : Int} (hx : 0 ≤ x ∧ x < 256) (hy : 0 ≤ y ∧ y < 256) : (UInt8.ofNat x.toNat == UInt8.ofNat y.toNat) = (x == y) := by
  rw [Bool.eq_iff_iff]; simp [← UInt8.toNat_inj]; omega
theorem less_u8 : ∀ (l m : List Int), (∀ x ∈ l, 0 ≤ x ∧ x < 256) → (∀ x ∈ m, 0 ≤ x ∧ x < 256) → Op.bytesLess (u8s l) (u8s m) = intLess l m
  | [], [], _, _ => rfl
  | _ :: _, [], _, _ => rfl
  | [], _ :: _, _, _ => rfl
  | a :: x, b :: y, hl, hm => by
    have ih := less_u8 x y (fun z hz => hl z (by simp [hz])) (fun z hz => hm z (by simp [hz]))
    show (decide (UInt8.ofNat a.toNat < UInt8.ofNat b.toNat) || (UInt8.ofNat a.toNat == UInt8.ofNat b.toNat && Op.bytesLess (u8s x) (u8s y))) = _
    rw [ih, u8_lt (hl a (by simp)) (hm b (by simp)), u8_eq (hl a (by simp)) (hm b (by simp))]
    rfl

def encI (c : Int) : List Int :=
  if 1114112 < c then [c - 1114112] else if c < 128 then [c] else if c < 2048 then [192 + c / 64, 128 + c % 64]
  else if c < 65536 then [224 + c / 4096, 128 + c / 64 % 64, 128 + c % 64] else [240 + c / 262144, 128 + c / 4096 % 64, 128 + c / 64 % 64, 128 + c % 64]
theorem bytesP_I (c : Int) : bytesP c = u8s (encI c) := by
  unfold bytesP encC encI
  repeat' split
  all_goals rfl
theorem encI_0 (c : Int) (h : 1114112 < c) : encI c = [c - 1114112] := by unfold encI; rw [if_pos h]
theorem encI_1 (c : Int) (h : c < 128) : encI c = [c] := by unfold encI; rw [if_neg (by omega), if_pos h]
theorem encI_2 (c : Int) (h1 : 128 ≤ c) (h : c < 2048) : encI c = [192 + c / 64, 128 + c % 64] := by unfold encI; rw [if_neg (by omega), if_neg (by omega), if_pos h]
theorem encI_3 (c : Int) (h1 : 2048 ≤ c) (h : c < 65536) : encI c = [224 + c / 4096, 128 + c / 64 % 64, 128 + c % 64] := by unfold encI; rw [if_neg (by omega), if_neg (by omega), if_neg (by omega), if_pos h]
theorem encI_4 (c : Int) (h1 : 65536 ≤ c) (h : c ≤ 1114111) : encI c = [240 + c / 262144, 128 + c / 4096 % 64, 128 + c / 64 % 64, 128 + c % 64] := by unfold encI; rw [if_neg (by omega), if_neg (by omega), if_neg (by omega), if_neg (by omega)]
theorem encI_bd (c : Int) (h : pointB c = true) : ∀ x ∈ encI c, 0 ≤ x ∧ x < 256 := by
  have := (pointB_iff c).1 h
  intro x hx
  rcases (by omega : 1114112 < c ∨ c < 128 ∨ (128 ≤ c ∧ c < 2048) ∨ (2048 ≤ c ∧ c < 65536) ∨ (65536 ≤ c ∧ c ≤ 1114111)) with k | k | k | k | k
  · rw [encI_0 c k] at hx; simp at hx; omega
  · rw [encI_1 c k] at hx; simp at hx; omega
  · rw [encI_2 c k.1 k.2] at hx; simp at hx; omega
  · rw [encI_3 c k.1 k.2] at hx; simp at hx; omega
  · rw [encI_4 c k.1 k.2] at hx; simp at hx; omega
theorem less_ill (a b : Int) (ha : 1114240 ≤ a ∧ a ≤ 1114367) (hb : 1114240 ≤ b ∧ b ≤ 1114367) : intLess (encI a) (encI b) = decide (a < b) := by
  unfold encI
  rw [if_pos (by omega), if_pos (by omega)]
  rw [Bool.eq_iff_iff]; simp [intLess]
theorem less_char (a b : Int) (ha : 0 ≤ a ∧ a ≤ 1114111) (hb : 0 ≤ b ∧ b ≤ 1114111) : intLess (encI a) (encI b) = decide (a < b) := by
  rw [Bool.eq_iff_iff, decide_eq_true_iff]
  rcases (by omega : a < 128 ∨ (128 ≤ a ∧ a < 2048) ∨ (2048 ≤ a ∧ a < 65536) ∨ (65536 ≤ a ∧ a ≤ 1114111)) with k | k | k | k <;>
    rcases (by omega : b < 128 ∨ (128 ≤ b ∧ b < 2048) ∨ (2048 ≤ b ∧ b < 65536) ∨ (65536 ≤ b ∧ b ≤ 1114111)) with m | m | m | m
  all_goals first | rw [encI_1 a k] | rw [encI_2 a k.1 k.2] | rw [encI_3 a k.1 k.2] | rw [encI_4 a k.1 k.2]
  all_goals first | rw [encI_1 b m] | rw [encI_2 b m.1 m.2] | rw [encI_3 b m.1 m.2] | rw [encI_4 b m.1 m.2]
  all_goals simp only [intLess, Bool.or_eq_true, Bool.and_eq_true, decide_eq_true_eq, beq_iff_eq, Bool.false_eq_true, and_false, or_false]
  all_goals omega
theorem order_same (a b : Int) (ha : pointB a = true) (hb : pointB b = true) (hs : charB a = charB b) : Op.bytesLess (bytesP a) (bytesP b) = decide (a < b) := by
  rw [bytesP_I, bytesP_I, less_u8 _ _ (encI_bd a ha) (encI_bd b hb)]
  have pa := (pointB_iff a).1 ha
  have pb := (pointB_iff b).1 hb
  cases h : charB a
  · have na : ¬ charB a = true := by rw [h]; simp
    have nb : ¬ charB b = true := by rw [← hs, h]; simp
    rw [charB_iff] at na nb
    exact less_ill a b (by omega) (by omega)
  · have na := (charB_iff a).1 h
    have nb := (charB_iff b).1 (by rw [← hs, h])
    exact less_char a b (by omega) (by omega)
theorem bytesLess_irrefl : ∀ l : List UInt8, Op.bytesLess l l = false
  | [] => rfl
  | a :: l => by simp [Op.bytesLess, bytesLess_irrefl l]
theorem eq_same (a b : Int) (ha : pointB a = true) (hb : pointB b = true) (hs : charB a = charB b) : (bytesP a == bytesP b) = (a == b) := by
  rw [Bool.eq_iff_iff]
  simp only [beq_iff_eq]
  constructor
  · intro h
    have h1 := order_same a b ha hb hs
    have h2 := order_same b a hb ha hs.symm
    rw [h, bytesLess_irrefl] at h1
    rw [h, bytesLess_irrefl] at h2
    have k1 := of_decide_eq_false h1.symm
    have k2 := of_decide_eq_false h2.symm
    omega
  · intro h; rw [h]

/-- The head of a text. -/
theorem head_bytes (s : ByteArray) (h : 0 < s.size) : (s.extract 0 (ptU s 0).2).toList = bytesP (ptU s 0).1 := by
  rw [ptU_bytes s 0 h]
  rw [ByteArray.toList_eq, Nat.zero_add]
  rfl
def wholeB (u : ByteArray) : Bool := decide ((Utf8.decode u 0).1 ≠ 65533) || decide (u.size = 3)
theorem whole_head (s : ByteArray) (h : 0 < s.size) : wholeB (s.extract 0 (ptU s 0).2) = charB (ptU s 0).1 := by
  have hw := ptU_wide s 0 h
  have hd : Utf8.decode (s.extract 0 (ptU s 0).2) 0 = Utf8.decode s 0 := decode_ahead s _ 0 (by omega) (by omega) (by rw [ptU_wide_eq]; omega)
  have hz : (s.extract 0 (ptU s 0).2).size = (ptU s 0).2 := by rw [ByteArray.size_extract]; omega
  unfold wholeB
  rw [hd, hz]
  rcases ptU_cases s 0 h with ⟨e1, e2, hb⟩ | ⟨w, h1, h4, h5, h6, h7, e, e2, hc, hq⟩
  · rw [e1, e2]
    have := B_lt s 0
    have : ¬ charB ((1114112 + B s 0 : Nat) : Int) = true := by rw [charB_iff]; omega
    simp
    simpa using this
  · rw [e, hc]
    by_cases hf : (Utf8.decode s 0).1 = 65533
    · have hb : (bytesP (Utf8.decode s 0).1).length = 3 := by rw [hf]; rfl
      rw [hq, seg_len s 0 _ (by omega) h5] at hb
      simp [hf]
      omega
    · simp [hf]
end Go.Proofs.YtgjhingjheplfaaDoor
/- The walk of PointsOrder. -/
namespace Go.Proofs.YtgjhingjheplfaaDoor
open Go Go.RowKit Go.Kt Go.Shelf

set_option maxRecDepth 100000 in
theorem whole_any (u : ByteArray) (w : World) (h : 0 < u.size) (_hs : u.size ≤ 4611686018427387904) :
    Calls Tryd.prog 55 #[.string u] w fun e w' => e = .returned (.bool (wholeB u)) ∧ Below w.heap.size w w' := by
  obtain ⟨W, hW⟩ : ∃ W, w.alloc (.stringIter u 0) = W := ⟨_, rfl⟩
  have hit : W.heap[w.heap.size]? = some (.stringIter u 0) := by rw [← hW]; exact World.alloc_heap_new w _
  have hbW : Below w.heap.size w W := by rw [← hW]; exact (Below.refl _ w).alloc (Nat.le_refl _) _
  obtain ⟨W1, hW1⟩ : ∃ W1, W.putObj w.heap.size (.stringIter u (0 + (Utf8.decode u 0).2)) = W1 := ⟨_, rfl⟩
  have hb1 : Below w.heap.size w W1 := by rw [← hW1]; exact hbW.trans (below_putObj (Nat.le_refl _) _)
  have hnx : ∀ ty, (Instr.next (.pointer (some ⟨w.heap.size, 0, none⟩)) true ty).run Tryd.prog W = .ok (.tuple #[.bool true, .int .i64 0, .int .i32 (Utf8.decode u 0).1]) W1 := fun ty => by
    rw [← hW1]; exact run_next_str W w.heap.size u 0 ty hit h
  rw [← hW] at hnx
  have hnx : ∀ ty, (Instr.next (.pointer (some ⟨w.heap.size, 0, none⟩)) true ty).run Tryd.prog (w.iter u 0) = .ok (.tuple #[.bool true, .int .i64 0, .int .i32 (Utf8.decode u 0).1]) W1 := hnx
  have HB := Lib.hid hb1
  obtain ⟨R, hR⟩ : ∃ R, wholeB u = R := ⟨_, rfl⟩
  unfold wholeB at hR
  rw [show wholeB u = R from hR]
  generalize (Utf8.decode u 0).1 = c at *
  clear hW1 hit hbW hb1 hW
  by_cases hc : c = 65533
  · subst hc
    by_cases h3 : u.size = 3
    · have hR2 : R = true := by rw [← hR]; simp [h3]
      have e3 : ((u.size : Int) == 3) = true := by simp; omega
      subst hR2
      clear hR h3
      go_enter Tryd.func55, Tryd.ntmps55
      go_wp2
      refine wp_loop_rounds 1 ?_
      rw [rounds_succ]
      go_wp2
      go_ret
      exact ⟨rfl, HB.out⟩
    · have hR2 : R = false := by rw [← hR]; simp [h3]
      have e3 : ((u.size : Int) == 3) = false := by simp; omega
      subst hR2
      clear hR h3
      go_enter Tryd.func55, Tryd.ntmps55
      go_wp2
      refine wp_loop_rounds 1 ?_
      rw [rounds_succ]
      go_wp2
      go_ret
      exact ⟨rfl, HB.out⟩
  · have hR2 : R = true := by rw [← hR]; simp [hc]
    have e3 : ((c : Int) != 65533) = true := by simp; omega
    subst hR2
    clear hR hc
    go_enter Tryd.func55, Tryd.ntmps55
    go_wp2
    refine wp_loop_rounds 1 ?_
    rw [rounds_succ]
    go_wp2
    go_ret
    exact ⟨rfl, HB.out⟩

/-- A text's first unit: nothing, or its point, its width, its head. -/
theorem first_unit (s : ByteArray) : (s.size = 0 ∧ ptP s 0 = (0, 0)) ∨ (0 < s.size ∧ ptP s 0 = (((ptU s 0).1 : Int), ((ptU s 0).2 : Int)) ∧ 1 ≤ (ptU s 0).2 ∧ (ptU s 0).2 ≤ s.size) := by
  rcases Nat.eq_zero_or_pos s.size with h | h
  · exact .inl ⟨h, ptP_out s 0 (by omega)⟩
  · have := ptU_wide s 0 h
    exact .inr ⟨h, ptP_in s 0 h, by omega, by omega⟩

theorem empty_of (s : ByteArray) (h : s.size = 0) : s = ⟨#[]⟩ := by
  cases s with
  | mk d => simp at h; exact h
theorem ne_empty (s : ByteArray) (h : 0 < s.size) : s.toList = [] → False := by
  intro h2
  rw [ByteArray.toList_eq] at h2
  have h3 : ([] : List UInt8).length = s.size := by rw [← h2]; simp
  rw [List.length_nil] at h3
  omega

set_option maxRecDepth 100000 in
set_option maxHeartbeats 2000000 in
theorem porder_walk (s t : ByteArray) (w : World) (hE : Env w) (hs : s.size ≤ 140737488351232) (ht : t.size ≤ 140737488351232) :
    Calls Tryd.prog 15 #[.string s, .string t] w fun e w' => e = .returned (.bool true) ∧ Below w.heap.size w w' := by
  have HE := Lib.hid hE
  have C1 := ptsNext_any s 0 w hE.tabs (by omega)
  have C2 := fun W (h : Env W) => ptsNext_any t 0 W h.tabs (by omega)
  clear hE
  rcases first_unit s with ⟨h0, e0⟩ | ⟨h0, e0, h1, h2⟩
  · obtain rfl := empty_of s h0
    rw [e0] at C1
    have CC1 := Lib.hid C1
    clear C1 h0 e0
    rcases first_unit t with ⟨k0, f0⟩ | ⟨k0, f0, k1, k2⟩
    · obtain rfl := empty_of t k0
      rw [f0] at C2
      have CC2 := Lib.hid C2
      clear C2 k0 f0
      go_enter Tryd.func15, Tryd.ntmps15
      go_wp2_with fail
      refine CC1.out.mono ?_
      rintro e w1 ⟨rfl, hb1⟩
      have HE1 := Lib.hid (HE.out.below HE.out.lt hb1)
      go_wp2_with fail
      refine (CC2.out _ HE1.out).mono ?_
      rintro e w2 ⟨rfl, hb2⟩
      have hb02 := hb1.trans (hb2.mono hb1.size)
      have C3 := Lib.hid (works2_any w2 (HE.out.below HE.out.lt hb02))
      have HB := Lib.hid hb02
      clear hb1 hb2 hb02
      go_wp2_with fail
      refine C3.out.mono ?_
      rintro e w3 ⟨rfl, hb3⟩
      go_wp2
      go_ret
      exact ⟨rfl, HB.out.trans (hb3.mono HB.out.size)⟩
    · rw [f0] at C2
      have CC2 := Lib.hid C2
      have m0 : (((ptU t 0).2 : Int) == 0) = false := by simp; omega
      have tl := ne_empty t k0
      have tl1 : t.toList.isEmpty = false := by cases h : t.toList.isEmpty; rfl; exact (tl (List.isEmpty_iff.1 h)).elim
      clear C2 f0 tl
      generalize (ptU t 0).2 = m at *
      generalize (ptU t 0).1 = b at *
      go_enter Tryd.func15, Tryd.ntmps15
      go_wp2_with fail
      refine CC1.out.mono ?_
      rintro e w1 ⟨rfl, hb1⟩
      have HE1 := Lib.hid (HE.out.below HE.out.lt hb1)
      go_wp2_with fail
      refine (CC2.out _ HE1.out).mono ?_
      rintro e w2 ⟨rfl, hb2⟩
      have hb02 := hb1.trans (hb2.mono hb1.size)
      have C3 := Lib.hid (works2_any w2 (HE.out.below HE.out.lt hb02))
      have HB := Lib.hid hb02
      clear hb1 hb2 hb02
      go_wp2_with fail
      refine C3.out.mono ?_
      rintro e w3 ⟨rfl, hb3⟩
      go_wp2
      go_ret
      exact ⟨rfl, HB.out.trans (hb3.mono HB.out.size)⟩
  · rw [e0] at C1
    have CC1 := Lib.hid C1
    have n0 : (((ptU s 0).2 : Int) == 0) = false := by simp; omega
    have sl := ne_empty s h0
    have sl1 : s.toList.isEmpty = false := by cases h : s.toList.isEmpty; rfl; exact (sl (List.isEmpty_iff.1 h)).elim
    clear C1 e0 sl
    rcases first_unit t with ⟨k0, f0⟩ | ⟨k0, f0, k1, k2⟩
    · obtain rfl := empty_of t k0
      rw [f0] at C2
      have CC2 := Lib.hid C2
      clear C2 k0 f0
      generalize (ptU s 0).2 = n at *
      generalize (ptU s 0).1 = a at *
      go_enter Tryd.func15, Tryd.ntmps15
      go_wp2_with fail
      refine CC1.out.mono ?_
      rintro e w1 ⟨rfl, hb1⟩
      have HE1 := Lib.hid (HE.out.below HE.out.lt hb1)
      go_wp2_with fail
      refine (CC2.out _ HE1.out).mono ?_
      rintro e w2 ⟨rfl, hb2⟩
      have hb02 := hb1.trans (hb2.mono hb1.size)
      have C3 := Lib.hid (works2_any w2 (HE.out.below HE.out.lt hb02))
      have HB := Lib.hid hb02
      clear hb1 hb2 hb02
      go_wp2_with fail
      refine C3.out.mono ?_
      rintro e w3 ⟨rfl, hb3⟩
      go_wp2
      go_ret
      exact ⟨rfl, HB.out.trans (hb3.mono HB.out.size)⟩
    · rw [f0] at C2
      have CC2 := Lib.hid C2
      have m0 : (((ptU t 0).2 : Int) == 0) = false := by simp; omega
      have pa := ptU_point s 0 h0
      have pb := ptU_point t 0 k0
      have ws := whole_head s h0
      have wt := whole_head t k0
      have hbs := head_bytes s h0
      have hbt := head_bytes t k0
      have zs : (s.extract 0 (ptU s 0).2).size = (ptU s 0).2 := by rw [ByteArray.size_extract]; omega
      have zt : (t.extract 0 (ptU t 0).2).size = (ptU t 0).2 := by rw [ByteArray.size_extract]; omega
      clear C2 f0
      generalize (ptU s 0).2 = n at *
      generalize (ptU t 0).2 = m at *
      generalize ha : ((ptU s 0).1 : Int) = a at *
      generalize hb : ((ptU t 0).1 : Int) = b at *
      clear ha hb
      have CS := Lib.hid (fun W => (by have := whole_any (s.extract 0 n) W (by omega) (by omega); rw [ws] at this; exact this : Calls Tryd.prog 55 #[.string (s.extract 0 n)] W fun e w' => e = .returned (.bool (charB a)) ∧ Below W.heap.size W w'))
      have CT := Lib.hid (fun W => (by have := whole_any (t.extract 0 m) W (by omega) (by omega); rw [wt] at this; exact this : Calls Tryd.prog 55 #[.string (t.extract 0 m)] W fun e w' => e = .returned (.bool (charB b)) ∧ Below W.heap.size W w'))
      clear ws wt zs zt
      by_cases hxy : charB a = charB b
      · have o1 := order_same a b pa pb hxy
        have o2 := eq_same a b pa pb hxy
        rw [← hbs, ← hbt] at o1 o2
        rw [← hxy] at CT
        generalize charB a = x at *
        have q1 : (x != x) = false := by simp
        have t1 : (decide (a < b) == Op.bytesLess (s.extract 0 n).toList (t.extract 0 m).toList) = true := by rw [o1]; simp
        have t2 : ((a == b) == ((s.extract 0 n).toList == (t.extract 0 m).toList)) = true := by rw [o2]; simp
        clear o1 o2 hbs hbt pa pb hxy
        go_enter Tryd.func15, Tryd.ntmps15
        go_wp2_with fail
        refine CC1.out.mono ?_
        rintro e w1 ⟨rfl, hb1⟩
        have HE1 := Lib.hid (HE.out.below HE.out.lt hb1)
        go_wp2_with fail
        refine (CC2.out _ HE1.out).mono ?_
        rintro e w2 ⟨rfl, hb2⟩
        have hb02 := hb1.trans (hb2.mono hb1.size)
        go_wp2_with fail
        refine (CS.out _).mono ?_
        rintro e w3 ⟨rfl, hb3⟩
        have hb03 := hb02.trans (hb3.mono hb02.size)
        go_wp2_with fail
        refine (CT.out _).mono ?_
        rintro e w4 ⟨rfl, hb4⟩
        have hb04 := hb03.trans (hb4.mono hb03.size)
        have HB := Lib.hid hb04
        clear hb1 hb2 hb3 hb4 hb02 hb03 hb04
        have CW := Lib.hid (fun W (h : Below w4.heap.size w4 W) => works2_any W (HE.out.below HE.out.lt (HB.out.trans (h.mono HB.out.size))))
        go_wp2
        go_region_held_law (fun w' => Below w4.heap.size w4 w') (first | assumption | exact (Below.refl _ _).drew | exact Below.drew (by assumption) | exact Below.trans (by assumption) (Below.mono (by assumption) (Below.size (by assumption))))
          ((go_at_call 36; refine (CW.out _ (by assumption)).mono ?_; rintro e w' ⟨rfl, hbn⟩))
        all_goals
          go_wp2
          go_ret
          exact ⟨rfl, HB.out.trans (Below.mono (by assumption) HB.out.size)⟩
      · have hlt : (decide (a < b) == charB a) = true := by
          have qa := (pointB_iff a).1 pa
          have qb := (pointB_iff b).1 pb
          cases h1 : charB a
          · have h2 : charB b = true := by cases h2 : charB b; exact absurd (h1.trans h2.symm) hxy; rfl
            have n1 : ¬ charB a = true := by rw [h1]; simp
            have n2 := (charB_iff b).1 h2
            rw [charB_iff] at n1
            simp; omega
          · have h2 : charB b = false := by cases h2 : charB b; rfl; exact absurd (h1.trans h2.symm) hxy
            have n1 := (charB_iff a).1 h1
            have n2 : ¬ charB b = true := by rw [h2]; simp
            rw [charB_iff] at n2
            simp; omega
        have q1 : (charB a == charB b) = false := by simp; exact hxy
        generalize charB a = x at *
        generalize charB b = y at *
        clear hbs hbt pa pb hxy
        go_enter Tryd.func15, Tryd.ntmps15
        go_wp2_with fail
        refine CC1.out.mono ?_
        rintro e w1 ⟨rfl, hb1⟩
        have HE1 := Lib.hid (HE.out.below HE.out.lt hb1)
        go_wp2_with fail
        refine (CC2.out _ HE1.out).mono ?_
        rintro e w2 ⟨rfl, hb2⟩
        have hb02 := hb1.trans (hb2.mono hb1.size)
        go_wp2_with fail
        refine (CS.out _).mono ?_
        rintro e w3 ⟨rfl, hb3⟩
        have hb03 := hb02.trans (hb3.mono hb02.size)
        go_wp2_with fail
        refine (CT.out _).mono ?_
        rintro e w4 ⟨rfl, hb4⟩
        have hb04 := hb03.trans (hb4.mono hb03.size)
        have HB := Lib.hid hb04
        clear hb1 hb2 hb3 hb4 hb02 hb03 hb04
        have CW := Lib.hid (works2_any w4 (HE.out.below HE.out.lt HB.out))
        go_wp2_with fail
        refine CW.out.mono ?_
        rintro e w5 ⟨rfl, hb5⟩
        go_wp2
        go_ret
        exact ⟨rfl, HB.out.trans (hb5.mono HB.out.size)⟩
theorem porder_c (s t : ByteArray) (w : World) (hE : Env w) (hs : s.size ≤ 140737488351232) (ht : t.size ≤ 140737488351232) :
    Calls Tryd.prog 15 #[.string s, .string t] w fun e w' => e = .returned (.bool true) ∧ Below w.heap.size w w' := porder_walk s t w hE hs ht
end Go.Proofs.YtgjhingjheplfaaDoor
/- PointsOrder: the row and the card. -/
namespace Go.Proofs.YtgjhingjheplfaaDoor
open Go.ChangeShapes Go.WideShapes Go.ChangeAt Go.RowKit Go.Kt
set_option maxRecDepth 100000

theorem pointsOrder_lifted (os : Os) (started : os.Started) (H : Type) (enc : TypeId × Value → H) (F : Stop.Interp) :
    ReturnsInHanded {} Tryd.checked os 15 .any ((OpenSpec.ofChange Rows.pointsOrderSpec).preRow enc Tryd.prog Tryd.f15 Rows.pointsOrderRow.domain false Rows.pointsOrderRow.laid) (((OpenSpec.ofChange Rows.pointsOrderSpec).at F).post enc Tryd.prog Tryd.f15 false true false false) := by
  refine returnsInHanded_of_row (C := Tryd.checked) (s := OpenSpec.ofChange Rows.pointsOrderSpec) own started (by kernel_rfl) Tryd.func15
    (witness_row_at (enc := enc) (C := Tryd.checked) false (world3 os) #[.string ⟨#[]⟩, .string ⟨#[]⟩] (world3_os _) (by kernel_rfl) (by kernel_rfl) (by kernel_rfl)
      (OpenSpec.preRow_of_cond (x := ([.lit (.string []), .lit (.string [])], [], [])) 8 (by kernel_rfl) (by kernel_rfl) (fun k hk => by cases hk) (by kernel_rfl) (laid_met3 os _))) ?_
  intro W base args ds gs before hval0 hW _ _ hz hL _ _
  have hval : ∀ (j : Nat) t v, Tryd.f15.params[j]? = some t → args[j]? = some v → Value.okWide Tryd.prog W .any base t v := hval0
  have hW' := hW
  obtain ⟨p, q, hA0, hV, rfl, _, _⟩ := hW
  have hA : DataW.TrodAll enc Tryd.prog W 0 (fun _ => true) true Tryd.f15.params.toList args.toList ds p := hA0
  rw [Tryd.params15] at hA hval
  obtain ⟨v0, v1, d0, d1, p0, p1, rfl, rfl, rfl, h0, h1⟩ := trodAll_two hA
  obtain ⟨rfl, rfl⟩ := trodVars_none hV
  obtain ⟨a0, rfl, rfl, rfl, w0⟩ := ChangeMaps.open_string Tryd.underlying9 (hval 0 9 v0 rfl rfl) h0
  have z0 : a0.size ≤ 140737488351232 := by simpa [reachBytes] using sized_string hz (j := 0) rfl rfl
  obtain ⟨a1, rfl, rfl, rfl, w1⟩ := ChangeMaps.open_string Tryd.underlying9 (hval 1 9 v1 rfl rfl) h1
  have z1 : a1.size ≤ 140737488351232 := by simpa [reachBytes] using sized_string hz (j := 1) rfl rfl
  have hE := of_laid3 hL
  clear hA0 hval0
  simp only [List.append_nil] at hW'
  refine (porder_c a0 a1 W hE z0 z1).mono fun e W' ⟨he, hb⟩ => ?_
  subst he
  exact ⟨_, rfl, _, _, _, [], [], [], hW', trodAll_mk1 (shut_bool Tryd.underlying4 _), (trodAll_mk2 (ChangeMaps.shut_string Tryd.underlying9 w0) (ChangeMaps.shut_string Tryd.underlying9 w1)), rfl, hb.frame _, fun h => by cases h⟩

theorem pointsOrder_said : Rows.PointsOrderSaid :=
  OpenClaim.holds_of_cond 15 Tryd.f15 rfl rfl rfl rfl rfl rfl rfl ⟨rfl, rfl, rfl, rfl, rfl⟩ rfl rfl rfl rfl rfl (by kernel_rfl) Tryd.func15 (by kernel_rfl)
    (of_decide_eq_true (by kernel_rfl)) (by unfold Func.isWrapper; first | (rw [if_pos (by decide +kernel)]; kernel_rfl) | (rw [if_neg (by decide +kernel)]; exact ⟨rfl, rfl⟩))
    (fun os started H enc _ F => by rw [OpenClaim.pre_eq_preRow]; exact pointsOrder_lifted os started H enc F)

theorem pointsOrder_plain (f : FuncId) (fn : Func) (hf : Tryd.pinned.checked.prog.funcNamed "glossary/glossarylaw02.PointsOrder" = some f) (hfn : Tryd.pinned.checked.prog.funcs[f]? = some fn) :
    true = Tryd.pinned.checked.prog.looks [] ∧ ∀ (j : Nat) t, fn.params[j]? = some t → Tryd.pinned.checked.prog.wantsStandIn t = false := by
  obtain rfl : f = 15 := Option.some.inj ((show Tryd.prog.funcNamed "glossary/glossarylaw02.PointsOrder" = some 15 by kernel_rfl).symm.trans hf) |>.symm
  obtain rfl : fn = Tryd.f15 := (Option.some.inj (Tryd.func15.symm.trans hfn)).symm
  refine ⟨by kernel_rfl, fun j t ht => ?_⟩
  rw [Tryd.params15] at ht
  have hm : t ∈ [9, 9] := by simpa using Array.mem_of_getElem? ht
  have hall : ([9, 9].all fun u => !Tryd.prog.wantsStandIn u) = true := by kernel_rfl
  exact (show Tryd.prog.wantsStandIn t = false by simpa using List.all_eq_true.1 hall t hm)

theorem pointsOrder_card : Rows.PointsOrderCardSaid :=
  Claim7.holds_tied_plain_at .later [] _ _ _ _ pointsOrder_said (fun _ h => by cases h) (by kernel_rfl) (fun _ h => by cases h) pointsOrder_row_tie rfl ⟨rfl, rfl⟩ (by kernel_rfl) rfl pointsOrder_plain (by kernel_rfl)

end Go.Proofs.YtgjhingjheplfaaDoor
