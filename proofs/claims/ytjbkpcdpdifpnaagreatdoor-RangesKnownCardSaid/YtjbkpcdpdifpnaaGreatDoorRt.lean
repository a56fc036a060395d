/- The document's answer for ranges: read. -/
import Derived.Test.YtjbkpcdpdifpnaaGreatDoorCk9
import Derived.Test.YtjbkpcdpdifpnaaGreatDoorRs
import Derived.Test.YtjbkpcdpdifpnaaGreatDoorCk10
import Derived.Test.YtjbkpcdpdifpnaaGreatDoorK9
namespace Go.Proofs.YtjbkpcdpdifpnaaGreatDoor
open Go Go.RowKit Go.Kt Go.Kt.Rg Go.Lib
attribute [local go_sem] Oper.semAt_some

theorem addp_lit (X : World) (x1 x2 : Operand) (p k : Int) (h : IntKind.i64.wrap (p + k) = p + k) : (do eqGuard .add 3 x1 x2 (.int .i64 p) (.int .i64 k); binOp .add 3 (.int .i64 p) (.int .i64 k) : Sem Value).run Tryz.prog X = .ok (.int .i64 (p + k)) X := by go_simp
theorem slice_ok (X : World) (s : ByteArray) (p q : Nat) (h1 : p ≤ q) (h2 : q ≤ s.size) : (Instr.sliceAt 9 (.string s) (some (.int .i64 (p : Nat))) (some (.int .i64 (q : Nat))) none).run Tryz.prog X = .ok (.string (s.extract p q)) X := by
  have a1 : (0 : Int) ≤ (q : Int) := by omega
  have a2 : (q : Int) ≤ s.size := by omega
  have a3 : (p : Int) ≤ (q : Int) := by omega
  go_simp
theorem gtrx_yes (X : World) (x1 x2 : Operand) (x : Int) (h : 1114111 < x) : (do eqGuard .gtr 3 x1 x2 (.int .i64 x) (.int .i64 1114111); binOp .gtr 3 (.int .i64 x) (.int .i64 1114111) : Sem Value).run Tryz.prog X = .ok (.bool true) X := by go_simp
theorem gtrx_no (X : World) (x1 x2 : Operand) (x : Int) (h : ¬ 1114111 < x) : (do eqGuard .gtr 3 x1 x2 (.int .i64 x) (.int .i64 1114111); binOp .gtr 3 (.int .i64 x) (.int .i64 1114111) : Sem Value).run Tryz.prog X = .ok (.bool false) X := by go_simp
theorem lssa_yes (X : World) (x1 x2 : Operand) (a : Int) (h : a < 0) : (do eqGuard .lss 3 x1 x2 (.int .i64 a) (.int .i64 0); binOp .lss 3 (.int .i64 a) (.int .i64 0) : Sem Value).run Tryz.prog X = .ok (.bool true) X := by go_simp
theorem lssa_no (X : World) (x1 x2 : Operand) (a : Int) (h : ¬ a < 0) : (do eqGuard .lss 3 x1 x2 (.int .i64 a) (.int .i64 0); binOp .lss 3 (.int .i64 a) (.int .i64 0) : Sem Value).run Tryz.prog X = .ok (.bool false) X := by go_simp
theorem neqD_no (X : World) (x1 x2 : Operand) (D E : ByteArray) (h : D = E) : (do eqGuard .neq 9 x1 x2 (.string D) (.string E); binOp .neq 9 (.string D) (.string E) : Sem Value).run Tryz.prog X = .ok (.bool false) X := by
  subst h
  go_simp
theorem neqD_yes (X : World) (x1 x2 : Operand) (D E : ByteArray) (h : ¬ D = E) : (do eqGuard .neq 9 x1 x2 (.string D) (.string E); binOp .neq 9 (.string D) (.string E) : Sem Value).run Tryz.prog X = .ok (.bool true) X := by
  have h1 : ¬ D.toList = E.toList := fun e => h (by
    rw [ByteArray.toList_eq, ByteArray.toList_eq, Array.toList_inj] at e
    exact ByteArray.ext e)
  have h2 : (D.toList == E.toList) = false := by rw [beq_eq_false_iff_ne]; exact h1
  go_simp
def pR1 (_s : ByteArray) (_p _e : Nat) (x _av : Int) (_D _E : ByteArray) (jx : Nat) (v : Value) (_W : World) : Prop := match jx with
  | 0 => v = .int .i64 x
  | 1 => v = .bool true
  | 2 => v = .bool true
  | 3 => v = undef
  | 4 => v = undef
  | 5 => v = undef
  | 6 => v = undef
  | 7 => v = .bool true
  | 8 => v = .bool true
  | 9 => v = undef
  | 10 => v = undef
  | 11 => v = undef
  | 12 => v = undef
  | 13 => v = undef
  | 14 => v = undef
  | 15 => v = undef
  | 16 => v = undef
  | 17 => v = .bool true
  | _ => True
def pR2 (_s : ByteArray) (_p _e : Nat) (x av : Int) (_D _E : ByteArray) (jx : Nat) (v : Value) (_W : World) : Prop := match jx with
  | 0 => v = .int .i64 x
  | 1 => v = .bool false
  | 2 => v = .bool false
  | 3 => v = .int .i64 x
  | 4 => v = .int .i32 x
  | 5 => v = .int .i64 av
  | 6 => v = .bool true
  | 7 => v = .bool true
  | 8 => v = .bool true
  | 9 => v = undef
  | 10 => v = undef
  | 11 => v = undef
  | 12 => v = undef
  | 13 => v = undef
  | 14 => v = undef
  | 15 => v = undef
  | 16 => v = undef
  | 17 => v = .bool true
  | _ => True
def pR3 (s : ByteArray) (p e : Nat) (x av : Int) (D E : ByteArray) (jx : Nat) (v : Value) (_W : World) : Prop := match jx with
  | 0 => v = .int .i64 x
  | 1 => v = .bool false
  | 2 => v = .bool false
  | 3 => v = .int .i64 x
  | 4 => v = .int .i32 x
  | 5 => v = .int .i64 av
  | 6 => v = .bool false
  | 7 => v = .bool false
  | 8 => v = .bool false
  | 9 => v = .int .i64 x
  | 10 => v = .int .i32 x
  | 11 => v = .string D
  | 12 => v = .string s
  | 13 => v = .int .i64 (p : Nat)
  | 14 => v = .int .i64 ((p : Int) + e + 1)
  | 15 => v = .string E
  | 16 => v = .bool false
  | 17 => v = .bool false
  | _ => True
def pR4 (s : ByteArray) (p e : Nat) (x av : Int) (D E : ByteArray) (jx : Nat) (v : Value) (_W : World) : Prop := match jx with
  | 0 => v = .int .i64 x
  | 1 => v = .bool false
  | 2 => v = .bool false
  | 3 => v = .int .i64 x
  | 4 => v = .int .i32 x
  | 5 => v = .int .i64 av
  | 6 => v = .bool false
  | 7 => v = .bool false
  | 8 => v = .bool false
  | 9 => v = .int .i64 x
  | 10 => v = .int .i32 x
  | 11 => v = .string D
  | 12 => v = .string s
  | 13 => v = .int .i64 (p : Nat)
  | 14 => v = .int .i64 ((p : Int) + e + 1)
  | 15 => v = .string E
  | 16 => v = .bool true
  | 17 => v = .bool true
  | _ => True
def pR8 (s : ByteArray) (p : Nat) (c d : UInt8) (a1 b1 : Int) (jx : Nat) (v : Value) (_W : World) : Prop := match jx with
  | 0 => v = .string s
  | 1 => v = .int .i64 (p : Nat)
  | 2 => v = .int .i64 ((p : Int) + 2)
  | 3 => v = .int .u8 (c.toNat : Nat)
  | 4 => v = .int .i64 a1
  | 5 => v = .string s
  | 6 => v = .int .i64 (p : Nat)
  | 7 => v = .int .i64 ((p : Int) + 3)
  | 8 => v = .int .u8 (d.toNat : Nat)
  | 9 => v = .int .i64 b1
  | 10 => v = .int .i64 a1
  | 11 => v = .int .i64 b1
  | _ => True
def cB (s : ByteArray) (i : Nat) : UInt8 := s.data.toList.getD i 0
theorem cB_drop {s : ByteArray} {p k : Nat} (h : p + k < s.size) : (s.data.toList.drop p)[k]? = some (cB s (p + k)) := by
  rw [List.getElem?_drop]
  unfold cB
  rw [List.getD_eq_getElem?_getD]
  have hl : s.data.toList.length = s.size := (Lib.size_eq s).symm
  rw [List.getElem?_eq_getElem (by omega)]
  rfl
theorem cut_take (s : ByteArray) (p k : Nat) : (s.extract p (p + k)).data.toList = (s.data.toList.drop p).take k := by
  rw [ByteArray.data_extract, Array.toList_extract, List.extract_eq_take_drop]
  congr 1
  omega
theorem cut_list (s : ByteArray) (p k : Nat) : (s.extract p (p + k)).toList = (s.data.toList.drop p).take k := by
  rw [ByteArray.toList_eq, cut_take]
theorem four_at {L : List UInt8} {c d : UInt8} (h : L.take 2 = [92, 120]) (h2 : L[2]? = some c) (h3 : L[3]? = some d) : ∃ t, L = 92 :: 120 :: c :: d :: t := by
  rcases L with _ | ⟨a0, _ | ⟨a1, _ | ⟨a2, _ | ⟨a3, t⟩⟩⟩⟩ <;> simp_all
set_option maxRecDepth 100000 in
set_option maxHeartbeats 4000000 in
theorem xread_any (s : ByteArray) (p : Nat) (w : World) (hs : s.size ≤ 140737488351232) (hp : p ≤ s.size) :
    Calls Tryz.prog 93 #[.string s, .int .i64 (p : Nat)] w fun e w' => e = .returned (.tuple #[.int .i64 (rdO s p).1, .int .i64 (rdO s p).2]) ∧ Below w.heap.size w w' := by
  obtain ⟨L, hL⟩ : ∃ L, s.data.toList.drop p = L := ⟨_, rfl⟩
  obtain ⟨⟨R1, R2⟩, hR⟩ : ∃ R, rdO s p = R := ⟨_, rfl⟩
  rw [hR]
  have hlen : L.length = s.size - p := by rw [← hL, List.length_drop, (Lib.size_eq s).symm]
  have HN : Hid (rdV L = (-1, 0) → (R1, R2) = (-1, 0)) := Lib.hid (fun h => by rw [← hR]; exact rdO_none (by rw [hL]; exact h))
  have HS : Hid (∀ (n : Int) (k : Nat), rdV L = (n, k) → 0 ≤ n → (R1, R2) = (n, (p : Int) + k)) := Lib.hid (fun n k h h0 => by rw [← hR]; exact rdO_some (by rw [hL]; exact h) h0)
  have HC : Hid (∀ k, p + k < s.size → L[k]? = some (cB s (p + k))) := Lib.hid (fun k hk => by rw [← hL]; exact cB_drop hk)
  have HT : Hid (∀ k, (s.extract p (p + k)).toList = L.take k) := Lib.hid (fun k => by rw [← hL]; exact cut_list s p k)
  have HLen := Lib.hid hlen
  clear hL hR hlen
  go_enter Tryz.func93, Tryz.ntmps93
  go_wp2
  go_loopw [6] (fun v wr => ∃ e : Nat, e ≤ 10 ∧ p + e ≤ s.size ∧ v = .int .i64 ((p : Int) + e) ∧ rdX L e ∧ rdU L e ∧ Below w.heap.size w wr) (fun v _ => s.size - (RowKit.intOf v).toNat)
  case atStart => exact ⟨0, by omega, by omega, by simp, fun h => by omega, fun _ j h4 hj => by omega, Below.refl _ _⟩
  case round =>
    obtain ⟨e, he, hes, rfl, hx, hu, hbw⟩ := hrel
    have w10 : IntKind.i64.wrap ((p : Int) + 10) = (p : Int) + 10 := IntWalk.i64_in _ (by omega)
    by_cases hgo : p + e < s.size ∧ e < 10
    · obtain ⟨g1, g2⟩ := hgo
      have i1 : (p : Int) + e < s.size := by omega
      have i2 : (p : Int) + e < (p : Int) + 10 := by omega
      have w1 : IntKind.i64.wrap ((p : Int) + e + 1) = (p : Int) + e + 1 := IntWalk.i64_in _ (by omega)
      have HXU := Lib.hid (And.intro hx (And.intro hu hbw))
      clear hx hu hbw
      go_wp2
      go_loopw [7] (fun v wx => ∃ n : Nat, 1 ≤ n ∧ n ≤ 9 ∧ v = .int .i64 (n : Nat) ∧ (e = 3 → 2 < n → rdX L 4) ∧ (4 ≤ e → e - 3 < n → L.take 3 = [92, 117, 123] → L[e]? ≠ some 125) ∧ Below w.heap.size w wx) (fun v _ => 9 - (RowKit.intOf v).toNat)
      case atStart => exact ⟨1, by omega, by omega, rfl, fun _ h => by omega, fun h4 h => by omega, HXU.out.2.2⟩
      case round =>
        obtain ⟨n, n1, n9, rfl, hx, hu, hbx⟩ := hrel
        by_cases hn9 : n < 9
        · have j9 : (n : Int) < 9 := by omega
          have wn4 : IntKind.i64.wrap ((n : Int) + 4) = (n : Int) + 4 := IntWalk.i64_in _ (by omega)
          have wn1 : IntKind.i64.wrap ((n : Int) + 1) = (n : Int) + 1 := IntWalk.i64_in _ (by omega)
          have wp2 : IntKind.i64.wrap ((p : Int) + 2) = (p : Int) + 2 := IntWalk.i64_in _ (by omega)
          have wp3 : IntKind.i64.wrap ((p : Int) + 3) = (p : Int) + 3 := IntWalk.i64_in _ (by omega)
          have q0 : (0 : Int) ≤ (p : Int) := by omega
          have q2 : (p : Int) ≤ (p : Int) + 2 := by omega
          have q3 : (p : Int) ≤ (p : Int) + 3 := by omega
          have q4 : ((p : Int) + 2).toNat = p + 2 := by omega
          have q5 : ((p : Int) + 3).toNat = p + 3 := by omega
          have HI := Lib.hid (And.intro hx (And.intro hu hbx))
          have HG := Lib.hid (And.intro hes (And.intro g1 (And.intro hp hs)))
          clear hx hu hbx w10 i1 i2 w1
          by_cases he4 : e = 3
          · have wsub : IntKind.i64.wrap ((p : Int) + e + 1 - (p : Int)) = 4 := (IntWalk.i64_in _ (by omega)).trans (by omega)
            have z2 : (p : Int) + 2 ≤ s.size := by omega
            have HE3 := Lib.hid he4
            have m4 : ((4 : Int) != (n : Int) + 4) = true := by simp; omega
            by_cases hpre : L.take 2 = [92, 120]
            · have t2 : (s.extract p (p + 2)).toList = [92, 120] := (HT.out 2).trans hpre
              by_cases hn2 : n = 2
              · have m2 : ((n : Int) == 2) = true := by simp; omega
                have HL2 := HC.out 2 (by omega)
                have HL3 := HC.out 3 (by omega)
                have I2 : ∀ w, (Instr.index 9 (.string s) (.int .i64 ((p : Int) + 2))).run Tryz.prog w = .ok (.int .u8 ((cB s (p + 2)).toNat : Nat)) w := fun w => run_bAt' s p 2 (by omega) w
                have I3 : ∀ w, (Instr.index 9 (.string s) (.int .i64 ((p : Int) + 3))).run Tryz.prog w = .ok (.int .u8 ((cB s (p + 3)).toNat : Nat)) w := fun w => run_bAt' s p 3 (by omega) w
                generalize cB s (p + 2) = c at *
                generalize cB s (p + 3) = d at *
                have CV1 := Lib.hid (fun V => xvalue_any c V)
                have CV2 := Lib.hid (fun V => xvalue_any d V)
                obtain ⟨t, ht⟩ : ∃ t, L = 92 :: 120 :: c :: d :: t := four_at hpre HL2 HL3
                by_cases hf : 8 ≤ valB c ∧ 0 ≤ valB d
                · have hbc := (valB_back (c := c) (by omega)).2
                  have hbd := (valB_back hf.2).2
                  have HR : Hid (R1 = dNum (1114112 + 16 * valB c + valB d) ∧ R2 = (p : Int) + 4) := Lib.hid (by
                    have hx := rd_x (t := t) hf.1 hf.2
                    rw [← ht] at hx
                    have := HS.out _ _ hx (by unfold dNum; rw [if_neg (by omega), if_neg (by omega), if_pos (by omega)]; omega)
                    exact ⟨congrArg Prod.fst this, congrArg Prod.snd this⟩)
                  have CN := Lib.hid (fun V => xNumber_any (1114112 + 16 * valB c + valB d) V (by omega) (by omega))
                  have v1 : IntKind.i64.wrap (16 * valB c) = 16 * valB c := IntWalk.i64_in _ (by omega)
                  have v2 : IntKind.i64.wrap (1114112 + 16 * valB c) = 1114112 + 16 * valB c := IntWalk.i64_in _ (by omega)
                  have v3 : IntKind.i64.wrap (1114112 + 16 * valB c + valB d) = 1114112 + 16 * valB c + valB d := IntWalk.i64_in _ (by omega)
                  have v4 : IntKind.i32.wrap (1114112 + 16 * valB c + valB d) = 1114112 + 16 * valB c + valB d := IntWalk.i32_in _ (by omega)
                  have f1 : (8 : Int) ≤ valB c := hf.1
                  have f2 : (0 : Int) ≤ valB d := hf.2
                  have HE4 : Hid ((p : Int) + e + 1 = (p : Int) + 4) := Lib.hid (by omega)
                  obtain ⟨a1, ha1⟩ : ∃ a1, valB c = a1 := ⟨_, rfl⟩
                  obtain ⟨b1, hb1⟩ : ∃ b1, valB d = b1 := ⟨_, rfl⟩
                  rw [ha1] at CV1 CN v1 v2 v3 v4 f1 HR
                  rw [hb1] at CV2 CN v3 v4 f2 HR
                  clear hf hbc hbd HL2 HL3 ht he hes hp hs g1 g2 he4 hpre hn2 ha1 hb1
                  go_wp2_with fail
                  refine wp_region_guarded (fun X => Below wr.heap.size wr X) (fun U V => Below U.heap.size U V) (pR8 s p c d a1 b1) (by kernel_rfl) (by kernel_rfl) (by kernel_rfl) (show Below wr.heap.size wr (wr.drewN 1) from below_drewN (Below.refl _ _) 1) ?hp ?hs ?hd
                  case hp =>
                    intro i v U V _ _ hk hv
                    unfold pR8 at hv ⊢
                    split at hv <;> exact hv
                  case hs =>
                      refine GSteps.cons ?_ (GSteps.cons ?_ (GSteps.cons ?_ (GSteps.cons ?_ (GSteps.cons ?_ (GSteps.cons ?_ (GSteps.cons ?_ (GSteps.cons ?_ (GSteps.cons ?_ (GSteps.cons ?_ (GSteps.cons ?_ (GSteps.cons ?_ (GSteps.nil))))))))))))
                      · intro a X hX hL hd
                        refine .inl ⟨rfl, ?_⟩
                        have e0 : a.eval (.tmp 0) = .string s := hL.far 0 (by kernel_rfl)
                        exact wp_value (exec_move rfl e0) ⟨_, rfl, hX, Below.refl _ _, rfl⟩
                      · intro a X hX hL hd
                        refine .inl ⟨rfl, ?_⟩
                        have e0 : a.eval (.tmp 1) = .int .i64 (p : Nat) := hL.far 1 (by kernel_rfl)
                        exact wp_value (exec_move rfl e0) ⟨_, rfl, hX, Below.refl _ _, rfl⟩
                      · intro a X hX hL hd
                        refine .inl ⟨rfl, ?_⟩
                        have e0 : a.eval (.tmp 46) = .int .i64 (p : Nat) := hd 1 46 (by kernel_rfl) (by kernel_rfl)
                        exact wp_value (exec_binop rfl e0 rfl (addp_lit X _ _ p 2 wp2)) ⟨_, rfl, hX, Below.refl _ _, rfl⟩
                      · intro a X hX hL hd
                        refine .inl ⟨rfl, ?_⟩
                        have e0 : a.eval (.tmp 45) = .string s := hd 0 45 (by kernel_rfl) (by kernel_rfl)
                        have e1 : a.eval (.tmp 47) = .int .i64 ((p : Int) + 2) := hd 2 47 (by kernel_rfl) (by kernel_rfl)
                        exact wp_value (exec_ix rfl e0 e1 (I2 X)) ⟨_, rfl, hX, Below.refl _ _, rfl⟩
                      · intro a X hX hL hd
                        refine .inl ⟨rfl, ?_⟩
                        have e0 : a.eval (.tmp 48) = .int .u8 (c.toNat : Nat) := hd 3 48 (by kernel_rfl) (by kernel_rfl)
                        refine wp_enter (exec_call (vs := #[.int .u8 (c.toNat : Nat)]) rfl (by simp only [List.map_toArray, List.map_cons, List.map_nil, e0]) Tryz.func133 rfl rfl) ?_
                        refine (CV1.out X).mono ?_
                        rintro r w' ⟨rfl, rfl⟩
                        exact ⟨_, rfl, _, rfl, hX, Below.refl _ _, rfl⟩
                      · intro a X hX hL hd
                        refine .inl ⟨rfl, ?_⟩
                        have e0 : a.eval (.tmp 0) = .string s := hL.far 0 (by kernel_rfl)
                        exact wp_value (exec_move rfl e0) ⟨_, rfl, hX, Below.refl _ _, rfl⟩
                      · intro a X hX hL hd
                        refine .inl ⟨rfl, ?_⟩
                        have e0 : a.eval (.tmp 1) = .int .i64 (p : Nat) := hL.far 1 (by kernel_rfl)
                        exact wp_value (exec_move rfl e0) ⟨_, rfl, hX, Below.refl _ _, rfl⟩
                      · intro a X hX hL hd
                        refine .inl ⟨rfl, ?_⟩
                        have e0 : a.eval (.tmp 51) = .int .i64 (p : Nat) := hd 6 51 (by kernel_rfl) (by kernel_rfl)
                        exact wp_value (exec_binop rfl e0 rfl (addp_lit X _ _ p 3 wp3)) ⟨_, rfl, hX, Below.refl _ _, rfl⟩
                      · intro a X hX hL hd
                        refine .inl ⟨rfl, ?_⟩
                        have e0 : a.eval (.tmp 50) = .string s := hd 5 50 (by kernel_rfl) (by kernel_rfl)
                        have e1 : a.eval (.tmp 52) = .int .i64 ((p : Int) + 3) := hd 7 52 (by kernel_rfl) (by kernel_rfl)
                        exact wp_value (exec_ix rfl e0 e1 (I3 X)) ⟨_, rfl, hX, Below.refl _ _, rfl⟩
                      · intro a X hX hL hd
                        refine .inl ⟨rfl, ?_⟩
                        have e0 : a.eval (.tmp 53) = .int .u8 (d.toNat : Nat) := hd 8 53 (by kernel_rfl) (by kernel_rfl)
                        refine wp_enter (exec_call (vs := #[.int .u8 (d.toNat : Nat)]) rfl (by simp only [List.map_toArray, List.map_cons, List.map_nil, e0]) Tryz.func133 rfl rfl) ?_
                        refine (CV2.out X).mono ?_
                        rintro r w' ⟨rfl, rfl⟩
                        exact ⟨_, rfl, _, rfl, hX, Below.refl _ _, rfl⟩
                      · intro a X hX hL hd
                        refine .inl ⟨rfl, ?_⟩
                        have e0 : a.eval (.tmp 49) = .int .i64 a1 := hd 4 49 (by kernel_rfl) (by kernel_rfl)
                        exact wp_value (exec_asg rfl e0) ⟨_, rfl, hX, Below.refl _ _, rfl⟩
                      · intro a X hX hL hd
                        refine .inl ⟨rfl, ?_⟩
                        have e0 : a.eval (.tmp 54) = .int .i64 b1 := hd 9 54 (by kernel_rfl) (by kernel_rfl)
                        exact wp_value (exec_asg rfl e0) ⟨_, rfl, hX, Below.refl _ _, rfl⟩
                  case hd =>
                    intro a2 X hX hL hd _
                    have h8 : a2.tmps.getD 8 undef = .int .i64 a1 := hd 10 8 (by kernel_rfl)
                    have h9 : a2.tmps.getD 9 undef = .int .i64 b1 := hd 11 9 (by kernel_rfl)
                    obtain ⟨f, ha, hf⟩ := hL.out [45, 46, 47, 48, 49, 50, 51, 52, 53, 54, 8, 9] (by kernel_rfl)
                    have h8' : f 8 = .int .i64 a1 := (hf 8).trans h8
                    have h9' : f 9 = .int .i64 b1 := (hf 9).trans h9
                    simp only [List.foldl_cons, List.foldl_nil, List.setIfInBounds_toArray, List.set_cons_zero, List.set_cons_succ, h8', h9'] at ha
                    clear hf hd hL h8 h9
                    subst ha
                    have HX := Lib.hid (HI.out.2.2.trans (hX.mono HI.out.2.2.size))
                    clear hX
                    go_wp2_with fail
                    refine (CN.out _).mono ?_
                    rintro r w2 ⟨rfl, rfl⟩
                    go_wp2
                    go_ret2
                    exact ⟨by rw [HR.out.1, HR.out.2, ← HE4.out]; rfl, HX.out⟩
                · have HXX := Lib.hid (rdX_at HL2 HL3 hf 4)
                  obtain ⟨a1, ha1⟩ : ∃ a1, valB c = a1 := ⟨_, rfl⟩
                  obtain ⟨b1, hb1⟩ : ∃ b1, valB d = b1 := ⟨_, rfl⟩
                  rw [ha1] at CV1 hf
                  rw [hb1] at CV2 hf
                  have hf' : ¬ 8 ≤ a1 ∨ 8 ≤ a1 ∧ ¬ 0 ≤ b1 := by omega
                  clear hf HL2 HL3 ht he hes hp hs g1 g2 he4 hpre ha1 hb1 hn2
                  rcases hf' with f1 | ⟨f1, f2⟩
                  all_goals
                    go_wp2_with fail
                    refine wp_region_guarded (fun X => Below wr.heap.size wr X) (fun U V => Below U.heap.size U V) (pR8 s p c d a1 b1) (by kernel_rfl) (by kernel_rfl) (by kernel_rfl) (show Below wr.heap.size wr (wr.drewN 1) from below_drewN (Below.refl _ _) 1) ?hp ?hs ?hd
                    case hp =>
                      intro i v U V _ _ hk hv
                      unfold pR8 at hv ⊢
                      split at hv <;> exact hv
                    case hs =>
                        refine GSteps.cons ?_ (GSteps.cons ?_ (GSteps.cons ?_ (GSteps.cons ?_ (GSteps.cons ?_ (GSteps.cons ?_ (GSteps.cons ?_ (GSteps.cons ?_ (GSteps.cons ?_ (GSteps.cons ?_ (GSteps.cons ?_ (GSteps.cons ?_ (GSteps.nil))))))))))))
                        · intro a X hX hL hd
                          refine .inl ⟨rfl, ?_⟩
                          have e0 : a.eval (.tmp 0) = .string s := hL.far 0 (by kernel_rfl)
                          exact wp_value (exec_move rfl e0) ⟨_, rfl, hX, Below.refl _ _, rfl⟩
                        · intro a X hX hL hd
                          refine .inl ⟨rfl, ?_⟩
                          have e0 : a.eval (.tmp 1) = .int .i64 (p : Nat) := hL.far 1 (by kernel_rfl)
                          exact wp_value (exec_move rfl e0) ⟨_, rfl, hX, Below.refl _ _, rfl⟩
                        · intro a X hX hL hd
                          refine .inl ⟨rfl, ?_⟩
                          have e0 : a.eval (.tmp 46) = .int .i64 (p : Nat) := hd 1 46 (by kernel_rfl) (by kernel_rfl)
                          exact wp_value (exec_binop rfl e0 rfl (addp_lit X _ _ p 2 wp2)) ⟨_, rfl, hX, Below.refl _ _, rfl⟩
                        · intro a X hX hL hd
                          refine .inl ⟨rfl, ?_⟩
                          have e0 : a.eval (.tmp 45) = .string s := hd 0 45 (by kernel_rfl) (by kernel_rfl)
                          have e1 : a.eval (.tmp 47) = .int .i64 ((p : Int) + 2) := hd 2 47 (by kernel_rfl) (by kernel_rfl)
                          exact wp_value (exec_ix rfl e0 e1 (I2 X)) ⟨_, rfl, hX, Below.refl _ _, rfl⟩
                        · intro a X hX hL hd
                          refine .inl ⟨rfl, ?_⟩
                          have e0 : a.eval (.tmp 48) = .int .u8 (c.toNat : Nat) := hd 3 48 (by kernel_rfl) (by kernel_rfl)
                          refine wp_enter (exec_call (vs := #[.int .u8 (c.toNat : Nat)]) rfl (by simp only [List.map_toArray, List.map_cons, List.map_nil, e0]) Tryz.func133 rfl rfl) ?_
                          refine (CV1.out X).mono ?_
                          rintro r w' ⟨rfl, rfl⟩
                          exact ⟨_, rfl, _, rfl, hX, Below.refl _ _, rfl⟩
                        · intro a X hX hL hd
                          refine .inl ⟨rfl, ?_⟩
                          have e0 : a.eval (.tmp 0) = .string s := hL.far 0 (by kernel_rfl)
                          exact wp_value (exec_move rfl e0) ⟨_, rfl, hX, Below.refl _ _, rfl⟩
                        · intro a X hX hL hd
                          refine .inl ⟨rfl, ?_⟩
                          have e0 : a.eval (.tmp 1) = .int .i64 (p : Nat) := hL.far 1 (by kernel_rfl)
                          exact wp_value (exec_move rfl e0) ⟨_, rfl, hX, Below.refl _ _, rfl⟩
                        · intro a X hX hL hd
                          refine .inl ⟨rfl, ?_⟩
                          have e0 : a.eval (.tmp 51) = .int .i64 (p : Nat) := hd 6 51 (by kernel_rfl) (by kernel_rfl)
                          exact wp_value (exec_binop rfl e0 rfl (addp_lit X _ _ p 3 wp3)) ⟨_, rfl, hX, Below.refl _ _, rfl⟩
                        · intro a X hX hL hd
                          refine .inl ⟨rfl, ?_⟩
                          have e0 : a.eval (.tmp 50) = .string s := hd 5 50 (by kernel_rfl) (by kernel_rfl)
                          have e1 : a.eval (.tmp 52) = .int .i64 ((p : Int) + 3) := hd 7 52 (by kernel_rfl) (by kernel_rfl)
                          exact wp_value (exec_ix rfl e0 e1 (I3 X)) ⟨_, rfl, hX, Below.refl _ _, rfl⟩
                        · intro a X hX hL hd
                          refine .inl ⟨rfl, ?_⟩
                          have e0 : a.eval (.tmp 53) = .int .u8 (d.toNat : Nat) := hd 8 53 (by kernel_rfl) (by kernel_rfl)
                          refine wp_enter (exec_call (vs := #[.int .u8 (d.toNat : Nat)]) rfl (by simp only [List.map_toArray, List.map_cons, List.map_nil, e0]) Tryz.func133 rfl rfl) ?_
                          refine (CV2.out X).mono ?_
                          rintro r w' ⟨rfl, rfl⟩
                          exact ⟨_, rfl, _, rfl, hX, Below.refl _ _, rfl⟩
                        · intro a X hX hL hd
                          refine .inl ⟨rfl, ?_⟩
                          have e0 : a.eval (.tmp 49) = .int .i64 a1 := hd 4 49 (by kernel_rfl) (by kernel_rfl)
                          exact wp_value (exec_asg rfl e0) ⟨_, rfl, hX, Below.refl _ _, rfl⟩
                        · intro a X hX hL hd
                          refine .inl ⟨rfl, ?_⟩
                          have e0 : a.eval (.tmp 54) = .int .i64 b1 := hd 9 54 (by kernel_rfl) (by kernel_rfl)
                          exact wp_value (exec_asg rfl e0) ⟨_, rfl, hX, Below.refl _ _, rfl⟩
                    case hd =>
                      intro a2 X hX hL hd _
                      have h8 : a2.tmps.getD 8 undef = .int .i64 a1 := hd 10 8 (by kernel_rfl)
                      have h9 : a2.tmps.getD 9 undef = .int .i64 b1 := hd 11 9 (by kernel_rfl)
                      obtain ⟨f, ha, hf⟩ := hL.out [45, 46, 47, 48, 49, 50, 51, 52, 53, 54, 8, 9] (by kernel_rfl)
                      have h8' : f 8 = .int .i64 a1 := (hf 8).trans h8
                      have h9' : f 9 = .int .i64 b1 := (hf 9).trans h9
                      simp only [List.foldl_cons, List.foldl_nil, List.setIfInBounds_toArray, List.set_cons_zero, List.set_cons_succ, h8', h9'] at ha
                      clear hf hd hL h8 h9
                      subst ha
                      have HX := Lib.hid (HI.out.2.2.trans (hX.mono HI.out.2.2.size))
                      clear hX
                      go_wp2
                      go_roundw
                      case rel => exact ⟨n + 1, by omega, by omega, by go_num, fun _ _ => HXX.out, fun h4 => by have := HE3.out; omega, HX.out⟩
                      case measure => simp [RowKit.intOf]; omega
              · have m2 : ((n : Int) == 2) = false := by simp; omega
                clear he hes hp hs g1 g2 he4
                go_wp2
                go_roundw
                case rel => exact ⟨n + 1, by omega, by omega, by go_num, fun h4 h2 => HI.out.1 h4 (by omega), fun h4 => by have := HE3.out; omega, HI.out.2.2⟩
                case measure => simp [RowKit.intOf]; omega
            · have t2 : ¬ (s.extract p (p + 2)).toList = [92, 120] := fun h => hpre ((HT.out 2).symm.trans h)
              have HX := Lib.hid (rdX_no hpre 4)
              clear he hes hp hs g1 g2 hpre he4
              go_wp2
              go_roundw
              case rel => exact ⟨n + 1, by omega, by omega, by go_num, fun _ _ => HX.out, fun h4 => by have := HE3.out; omega, HI.out.2.2⟩
              case measure => simp [RowKit.intOf]; omega
          · have wsub : IntKind.i64.wrap ((p : Int) + e + 1 - (p : Int)) = (e : Int) + 1 := (IntWalk.i64_in _ (by omega)).trans (by omega)
            have m4 : ((e : Int) + 1 == 4) = false := by simp; omega
            by_cases hen : e = n + 3
            · have mn : ((e : Int) + 1 != (n : Int) + 4) = false := by simp; omega
              have z3 : (p : Int) + 3 ≤ s.size := by omega
              have j6 : ¬ (6 : Int) < (n : Int) := by omega
              have HEN := Lib.hid hen
              by_cases hpre : L.take 3 = [92, 117, 123]
              · have t3 : (s.extract p (p + 3)).toList = [92, 117, 123] := (HT.out 3).trans hpre
                have HCe := HC.out e (by omega)
                have HWE : Hid (wrap64 ((p : Int) + e) = (p : Int) + e) := Lib.hid (by unfold wrap64; omega)
                have Ie : ∀ w, (Instr.index 9 (.string s) (.int .i64 ((p : Int) + e))).run Tryz.prog w = .ok (.int .u8 ((cB s (p + e)).toNat : Nat)) w := fun w => run_bAt' s p e (by omega) w
                obtain ⟨b, hb⟩ : ∃ b : Int, (((cB s (p + e)).toNat : Nat) : Int) = b := ⟨_, rfl⟩
                rw [hb] at Ie
                by_cases hb5 : b = 125
                · have hq : (b != 125) = false := by simpa using hb5
                  have HP : Hid (L[e]? = some 125 ∧ L.take 3 = [92, 117, 123]) := Lib.hid ⟨by rw [HCe]; congr 1; exact UInt8.toNat_inj.1 (by rw [hb5] at hb; exact Int.ofNat.inj hb), hpre⟩
                  subst hb5
                  clear hb HCe hpre he hes hp hs g1 g2 hen hq
                  have we := HWE.out
                  go_wp2
                  clear we
                  go_loopw [10, 11] (fun sv iv wy => ∃ (k : Nat) (x : Int), 3 + k ≤ e ∧ iv = .int .i64 ((p : Int) + 3 + k) ∧ sv = .int .i64 x ∧ DgS L k x ∧ Below w.heap.size w wy) (fun _ v _ => p + e - (RowKit.intOf v).toNat)
                  case atStart => exact ⟨0, 0, by have := HEN.out; omega, by simp, rfl, DgS.zero L, HI.out.2.2⟩
                  case round =>
                    obtain ⟨k, x, hk, rfl, rfl, hd, hby⟩ := hrel
                    have HB := Lib.hid hby
                    obtain ⟨hes, g1, hp, hs⟩ := HG.out
                    have hen := HEN.out
                    have hn6 : n ≤ 6 := by omega
                    clear hby
                    by_cases hlt : 3 + k < e
                    · have jk : (p : Int) + 3 + k < (p : Int) + e := by omega
                      have Ik : ∀ w, (Instr.index 9 (.string s) (.int .i64 ((p : Int) + 3 + k))).run Tryz.prog w = .ok (.int .u8 ((cB s (p + 3 + k)).toNat : Nat)) w := fun w => by
                        have := run_bAt s (p + 3 + k) (by omega) w
                        rw [show ((p + 3 + k : Nat) : Int) = (p : Int) + 3 + k by omega] at this
                        exact this
                      have hck := HC.out (3 + k) (by omega)
                      rw [← Nat.add_assoc] at hck
                      generalize cB s (p + 3 + k) = c at *
                      have CV := Lib.hid (fun V => xvalue_any c V)
                      by_cases h0 : 0 ≤ valB c
                      · have hb2 := hd.bd (by omega)
                        have hvb := (valB_back h0).2
                        have v1 : IntKind.i64.wrap (16 * x) = 16 * x := IntWalk.i64_in _ (by omega)
                        have v2 : IntKind.i64.wrap (16 * x + valB c) = 16 * x + valB c := IntWalk.i64_in _ (by omega)
                        have v3 : IntKind.i64.wrap ((p : Int) + 3 + k + 1) = (p : Int) + 3 + k + 1 := IntWalk.i64_in _ (by omega)
                        have HD := Lib.hid (hd.step hck h0)
                        have hn0 : ¬ valB c < 0 := by omega
                        generalize valB c = a at *
                        clear hes g1 hp hs hen hd hck hb2 hvb h0 hlt HG
                        have we := HWE.out
                        go_wp2_with fail
                        refine (CV.out _).mono ?_
                        rintro r w1 ⟨rfl, rfl⟩
                        go_wp2_with fail
                        refine (CV.out _).mono ?_
                        rintro r w1 ⟨rfl, rfl⟩
                        go_wp2
                        clear we
                        go_roundw
                        case rel => exact ⟨k + 1, 16 * x + a, by omega, by go_num, rfl, HD.out, HB.out⟩
                        case measure => simp [RowKit.intOf]; omega
                      · have h0' : valB c < 0 := by omega
                        have HR : Hid (R1 = -1 ∧ R2 = 0) := Lib.hid (by
                          have := HN.out (rd_digit (e := e + 1) (k := k) (by omega) HP.out.2 (by rw [Nat.add_sub_cancel]; exact HP.out.1) (by rw [Nat.add_sub_cancel]; exact HXU.out.2.1) (by omega) hck h0')
                          exact ⟨congrArg Prod.fst this, congrArg Prod.snd this⟩)
                        generalize valB c = a at *
                        clear hes g1 hp hs hen hd hck h0 hlt HG
                        have we := HWE.out
                        go_wp2_with fail
                        refine (CV.out _).mono ?_
                        rintro r w1 ⟨rfl, rfl⟩
                        go_wp2
                        clear we
                        go_ret2
                        exact ⟨by rw [HR.out.1, HR.out.2]; rfl, HB.out⟩
                    · have hk3 : 3 + k = e := by omega
                      have jk : ¬ (p : Int) + 3 + k < (p : Int) + e := by omega
                      have hb2 := hd.bd (by omega)
                      have hll := HLen.out
                      have HSUM := Lib.hid (rd_sum (e := e + 1) (k := k) (x := x) (by omega) HP.out.2 (by rw [Nat.add_sub_cancel]; exact HP.out.1) (by rw [Nat.add_sub_cancel]; exact HXU.out.2.1) (by omega) hd (by omega))
                      have v4 : IntKind.i32.wrap x = x := IntWalk.i32_in _ (by omega)
                      have CN := Lib.hid (fun V => xNumber_any x V (by omega) (by omega))
                      have CN2 := Lib.hid (fun V => xNumber_any x V (by omega) (by omega))
                      have HNo : Hid (1114111 < x ∨ dNum x < 0 ∨ dOne x ≠ L.take (e + 1) → R1 = -1 ∧ R2 = 0) := Lib.hid (fun h => by
                        have := HN.out (HSUM.out.1 h)
                        exact ⟨congrArg Prod.fst this, congrArg Prod.snd this⟩)
                      have HYes : Hid (¬ 1114111 < x → 0 ≤ dNum x → dOne x = L.take (e + 1) → R1 = dNum x ∧ R2 = (p : Int) + e + 1) := Lib.hid (fun h1 h2 h3 => by
                        have := HS.out _ _ (HSUM.out.2 h1 h2 h3) h2
                        refine ⟨congrArg Prod.fst this, ?_⟩
                        have h4 : R2 = (p : Int) + ((e + 1 : Nat) : Int) := congrArg Prod.snd this
                        omega)
                      have ht6 := HT.out (e + 1)
                      have q6 : ((p : Int) + e + 1).toNat = p + (e + 1) := by omega
                      have q7 : (p : Int) ≤ (p : Int) + e + 1 := by omega
                      have z6 : (p : Int) + e + 1 ≤ s.size := by omega
                      have cvx : ∀ X : World, (convert 3 21 (.int .i64 x)).run Tryz.prog X = .ok (.int .i32 x) X := fun X => by go_simp
                      by_cases c1 : 1114111 < x
                      · have HR := Lib.hid (HNo.out (.inl c1))
                        have HC1 := Lib.hid c1
                        have we := HWE.out
                        clear hes c1 g1 hp hs hen hd hb2 hk3 hll ht6 hlt HG HSUM HNo HYes
                        go_wp2_with fail
                        refine wp_region_guarded (fun X => Below wr.heap.size wr X) (fun U V => Below U.heap.size U V) (pR1 s p e x 0 ⟨#[]⟩ ⟨#[]⟩) (by kernel_rfl) (by kernel_rfl) (by kernel_rfl) (show Below wr.heap.size wr (wr.drewN 1) from below_drewN (Below.refl _ _) 1) ?hp ?hs ?hd
                        case hp =>
                          intro i v U V _ _ hk hv
                          unfold pR1 at hv ⊢
                          split at hv <;> exact hv
                        case hs =>
                            refine GSteps.cons ?_ (GSteps.cons ?_ (GSteps.cons ?_ (GSteps.cons ?_ (GSteps.cons ?_ (GSteps.cons ?_ (GSteps.cons ?_ (GSteps.cons ?_ (GSteps.cons ?_ (GSteps.cons ?_ (GSteps.cons ?_ (GSteps.cons ?_ (GSteps.cons ?_ (GSteps.cons ?_ (GSteps.cons ?_ (GSteps.cons ?_ (GSteps.cons ?_ (GSteps.cons ?_ (GSteps.nil))))))))))))))))))
                            · intro a X hX hL hd
                              refine .inl ⟨rfl, ?_⟩
                              have e0 : a.eval (.tmp 10) = .int .i64 x := hL.far 10 (by kernel_rfl)
                              exact wp_value (exec_move rfl e0) ⟨_, rfl, hX, Below.refl _ _, rfl⟩
                            · intro a X hX hL hd
                              refine .inl ⟨rfl, ?_⟩
                              have e0 : a.eval (.tmp 114) = .int .i64 x := hd 0 114 (by kernel_rfl) (by kernel_rfl)
                              exact wp_value (exec_binop rfl e0 rfl (gtrx_yes X _ _ x (by have := HC1.out; omega))) ⟨_, rfl, hX, Below.refl _ _, rfl⟩
                            · intro a X hX hL hd
                              refine .inl ⟨rfl, ?_⟩
                              have e0 : a.eval (.tmp 115) = .bool true := hd 1 115 (by kernel_rfl) (by kernel_rfl)
                              exact wp_value (exec_move rfl e0) ⟨_, rfl, hX, Below.refl _ _, rfl⟩
                            · intro a X hX hL hd
                              exact .inr ⟨wanted_false (b := true) 116 rfl (by kernel_rfl) (.inl (hd 2 116 (by kernel_rfl) (by kernel_rfl))), Below.refl _ _, rfl⟩
                            · intro a X hX hL hd
                              exact .inr ⟨wanted_false (b := true) 116 rfl (by kernel_rfl) (.inl (hd 2 116 (by kernel_rfl) (by kernel_rfl))), Below.refl _ _, rfl⟩
                            · intro a X hX hL hd
                              exact .inr ⟨wanted_false (b := true) 116 rfl (by kernel_rfl) (.inl (hd 2 116 (by kernel_rfl) (by kernel_rfl))), Below.refl _ _, rfl⟩
                            · intro a X hX hL hd
                              exact .inr ⟨wanted_false (b := true) 116 rfl (by kernel_rfl) (.inl (hd 2 116 (by kernel_rfl) (by kernel_rfl))), Below.refl _ _, rfl⟩
                            · intro a X hX hL hd
                              refine .inl ⟨rfl, ?_⟩
                              have e0 : a.eval (.tmp 116) = .bool true := hd 2 116 (by kernel_rfl) (by kernel_rfl)
                              have e1 : a.eval (.tmp 120) = undef := hd 6 120 (by kernel_rfl) (by kernel_rfl)
                              exact wp_value (exec_pick rfl e0 rfl e1) ⟨_, rfl, hX, Below.refl _ _, rfl⟩
                            · intro a X hX hL hd
                              refine .inl ⟨rfl, ?_⟩
                              have e0 : a.eval (.tmp 121) = .bool true := hd 7 121 (by kernel_rfl) (by kernel_rfl)
                              exact wp_value (exec_move rfl e0) ⟨_, rfl, hX, Below.refl _ _, rfl⟩
                            · intro a X hX hL hd
                              exact .inr ⟨wanted_false (b := true) 122 rfl (by kernel_rfl) (.inl (hd 8 122 (by kernel_rfl) (by kernel_rfl))), Below.refl _ _, rfl⟩
                            · intro a X hX hL hd
                              exact .inr ⟨wanted_false (b := true) 122 rfl (by kernel_rfl) (.inl (hd 8 122 (by kernel_rfl) (by kernel_rfl))), Below.refl _ _, rfl⟩
                            · intro a X hX hL hd
                              exact .inr ⟨wanted_false (b := true) 122 rfl (by kernel_rfl) (.inl (hd 8 122 (by kernel_rfl) (by kernel_rfl))), Below.refl _ _, rfl⟩
                            · intro a X hX hL hd
                              exact .inr ⟨wanted_false (b := true) 122 rfl (by kernel_rfl) (.inl (hd 8 122 (by kernel_rfl) (by kernel_rfl))), Below.refl _ _, rfl⟩
                            · intro a X hX hL hd
                              exact .inr ⟨wanted_false (b := true) 122 rfl (by kernel_rfl) (.inl (hd 8 122 (by kernel_rfl) (by kernel_rfl))), Below.refl _ _, rfl⟩
                            · intro a X hX hL hd
                              exact .inr ⟨wanted_false (b := true) 122 rfl (by kernel_rfl) (.inl (hd 8 122 (by kernel_rfl) (by kernel_rfl))), Below.refl _ _, rfl⟩
                            · intro a X hX hL hd
                              exact .inr ⟨wanted_false (b := true) 122 rfl (by kernel_rfl) (.inl (hd 8 122 (by kernel_rfl) (by kernel_rfl))), Below.refl _ _, rfl⟩
                            · intro a X hX hL hd
                              exact .inr ⟨wanted_false (b := true) 122 rfl (by kernel_rfl) (.inl (hd 8 122 (by kernel_rfl) (by kernel_rfl))), Below.refl _ _, rfl⟩
                            · intro a X hX hL hd
                              refine .inl ⟨rfl, ?_⟩
                              have e0 : a.eval (.tmp 122) = .bool true := hd 8 122 (by kernel_rfl) (by kernel_rfl)
                              have e1 : a.eval (.tmp 130) = undef := hd 16 130 (by kernel_rfl) (by kernel_rfl)
                              exact wp_value (exec_pick rfl e0 rfl e1) ⟨_, rfl, hX, Below.refl _ _, rfl⟩
                        case hd =>
                          intro a2 X hX hL hd _
                          have h131 : a2.tmps.getD 131 undef = .bool true := hd 17 131 (by kernel_rfl)
                          obtain ⟨f, ha, hf⟩ := hL.out [114, 115, 116, 117, 118, 119, 120, 121, 122, 123, 124, 125, 126, 127, 128, 129, 130, 131] (by kernel_rfl)
                          have h131' : f 131 = .bool true := (hf 131).trans h131
                          simp only [List.foldl_cons, List.foldl_nil, List.setIfInBounds_toArray, List.set_cons_zero, List.set_cons_succ, h131'] at ha
                          clear hf hd hL h131
                          subst ha
                          have HX := Lib.hid (HB.out.trans (hX.mono HB.out.size))
                          clear hX
                          go_wp2
                          go_ret2
                          exact ⟨by rw [HR.out.1, HR.out.2]; rfl, HX.out⟩
                      · obtain ⟨av, haa⟩ : ∃ av, dNum x = av := ⟨_, rfl⟩
                        rw [haa] at CN CN2 HNo HYes
                        by_cases hav : av < 0
                        · have HR := Lib.hid (HNo.out (.inr (.inl hav)))
                          have HC1 := Lib.hid c1
                          have HAV := Lib.hid hav
                          have we := HWE.out
                          clear hes c1 hav g1 hp hs hen hd hb2 hk3 hll ht6 hlt HG HSUM HNo HYes haa
                          go_wp2_with fail
                          refine wp_region_guarded (fun X => Below wr.heap.size wr X) (fun U V => Below U.heap.size U V) (pR2 s p e x av ⟨#[]⟩ ⟨#[]⟩) (by kernel_rfl) (by kernel_rfl) (by kernel_rfl) (show Below wr.heap.size wr (wr.drewN 1) from below_drewN (Below.refl _ _) 1) ?hp ?hs ?hd
                          case hp =>
                            intro i v U V _ _ hk hv
                            unfold pR2 at hv ⊢
                            split at hv <;> exact hv
                          case hs =>
                              refine GSteps.cons ?_ (GSteps.cons ?_ (GSteps.cons ?_ (GSteps.cons ?_ (GSteps.cons ?_ (GSteps.cons ?_ (GSteps.cons ?_ (GSteps.cons ?_ (GSteps.cons ?_ (GSteps.cons ?_ (GSteps.cons ?_ (GSteps.cons ?_ (GSteps.cons ?_ (GSteps.cons ?_ (GSteps.cons ?_ (GSteps.cons ?_ (GSteps.cons ?_ (GSteps.cons ?_ (GSteps.nil))))))))))))))))))
                              · intro a X hX hL hd
                                refine .inl ⟨rfl, ?_⟩
                                have e0 : a.eval (.tmp 10) = .int .i64 x := hL.far 10 (by kernel_rfl)
                                exact wp_value (exec_move rfl e0) ⟨_, rfl, hX, Below.refl _ _, rfl⟩
                              · intro a X hX hL hd
                                refine .inl ⟨rfl, ?_⟩
                                have e0 : a.eval (.tmp 114) = .int .i64 x := hd 0 114 (by kernel_rfl) (by kernel_rfl)
                                exact wp_value (exec_binop rfl e0 rfl (gtrx_no X _ _ x (by have := HC1.out; omega))) ⟨_, rfl, hX, Below.refl _ _, rfl⟩
                              · intro a X hX hL hd
                                refine .inl ⟨rfl, ?_⟩
                                have e0 : a.eval (.tmp 115) = .bool false := hd 1 115 (by kernel_rfl) (by kernel_rfl)
                                exact wp_value (exec_move rfl e0) ⟨_, rfl, hX, Below.refl _ _, rfl⟩
                              · intro a X hX hL hd
                                refine .inl ⟨wanted_true 116 rfl (by kernel_rfl) (hd 2 116 (by kernel_rfl) (by kernel_rfl)), ?_⟩
                                have e0 : a.eval (.tmp 10) = .int .i64 x := hL.far 10 (by kernel_rfl)
                                exact wp_value (exec_move rfl e0) ⟨_, rfl, hX, Below.refl _ _, rfl⟩
                              · intro a X hX hL hd
                                refine .inl ⟨wanted_true 116 rfl (by kernel_rfl) (hd 2 116 (by kernel_rfl) (by kernel_rfl)), ?_⟩
                                have e0 : a.eval (.tmp 117) = .int .i64 x := hd 3 117 (by kernel_rfl) (by kernel_rfl)
                                exact wp_value (exec_convert rfl e0 (cvx X)) ⟨_, rfl, hX, Below.refl _ _, rfl⟩
                              · intro a X hX hL hd
                                refine .inl ⟨wanted_true 116 rfl (by kernel_rfl) (hd 2 116 (by kernel_rfl) (by kernel_rfl)), ?_⟩
                                have e0 : a.eval (.tmp 118) = .int .i32 x := hd 4 118 (by kernel_rfl) (by kernel_rfl)
                                refine wp_enter (exec_call (vs := #[.int .i32 x]) rfl (by simp only [List.map_toArray, List.map_cons, List.map_nil, e0]) Tryz.func44 rfl rfl) ?_
                                refine (CN.out X).mono ?_
                                rintro r w' ⟨rfl, rfl⟩
                                exact ⟨_, rfl, _, rfl, hX, Below.refl _ _, rfl⟩
                              · intro a X hX hL hd
                                refine .inl ⟨wanted_true 116 rfl (by kernel_rfl) (hd 2 116 (by kernel_rfl) (by kernel_rfl)), ?_⟩
                                have e0 : a.eval (.tmp 119) = .int .i64 av := hd 5 119 (by kernel_rfl) (by kernel_rfl)
                                exact wp_value (exec_binop rfl e0 rfl (lssa_yes X _ _ av (by have := HAV.out; omega))) ⟨_, rfl, hX, Below.refl _ _, rfl⟩
                              · intro a X hX hL hd
                                refine .inl ⟨rfl, ?_⟩
                                have e0 : a.eval (.tmp 116) = .bool false := hd 2 116 (by kernel_rfl) (by kernel_rfl)
                                have e1 : a.eval (.tmp 120) = .bool true := hd 6 120 (by kernel_rfl) (by kernel_rfl)
                                exact wp_value (exec_pick rfl e0 rfl e1) ⟨_, rfl, hX, Below.refl _ _, rfl⟩
                              · intro a X hX hL hd
                                refine .inl ⟨rfl, ?_⟩
                                have e0 : a.eval (.tmp 121) = .bool true := hd 7 121 (by kernel_rfl) (by kernel_rfl)
                                exact wp_value (exec_move rfl e0) ⟨_, rfl, hX, Below.refl _ _, rfl⟩
                              · intro a X hX hL hd
                                exact .inr ⟨wanted_false (b := true) 122 rfl (by kernel_rfl) (.inl (hd 8 122 (by kernel_rfl) (by kernel_rfl))), Below.refl _ _, rfl⟩
                              · intro a X hX hL hd
                                exact .inr ⟨wanted_false (b := true) 122 rfl (by kernel_rfl) (.inl (hd 8 122 (by kernel_rfl) (by kernel_rfl))), Below.refl _ _, rfl⟩
                              · intro a X hX hL hd
                                exact .inr ⟨wanted_false (b := true) 122 rfl (by kernel_rfl) (.inl (hd 8 122 (by kernel_rfl) (by kernel_rfl))), Below.refl _ _, rfl⟩
                              · intro a X hX hL hd
                                exact .inr ⟨wanted_false (b := true) 122 rfl (by kernel_rfl) (.inl (hd 8 122 (by kernel_rfl) (by kernel_rfl))), Below.refl _ _, rfl⟩
                              · intro a X hX hL hd
                                exact .inr ⟨wanted_false (b := true) 122 rfl (by kernel_rfl) (.inl (hd 8 122 (by kernel_rfl) (by kernel_rfl))), Below.refl _ _, rfl⟩
                              · intro a X hX hL hd
                                exact .inr ⟨wanted_false (b := true) 122 rfl (by kernel_rfl) (.inl (hd 8 122 (by kernel_rfl) (by kernel_rfl))), Below.refl _ _, rfl⟩
                              · intro a X hX hL hd
                                exact .inr ⟨wanted_false (b := true) 122 rfl (by kernel_rfl) (.inl (hd 8 122 (by kernel_rfl) (by kernel_rfl))), Below.refl _ _, rfl⟩
                              · intro a X hX hL hd
                                exact .inr ⟨wanted_false (b := true) 122 rfl (by kernel_rfl) (.inl (hd 8 122 (by kernel_rfl) (by kernel_rfl))), Below.refl _ _, rfl⟩
                              · intro a X hX hL hd
                                refine .inl ⟨rfl, ?_⟩
                                have e0 : a.eval (.tmp 122) = .bool true := hd 8 122 (by kernel_rfl) (by kernel_rfl)
                                have e1 : a.eval (.tmp 130) = undef := hd 16 130 (by kernel_rfl) (by kernel_rfl)
                                exact wp_value (exec_pick rfl e0 rfl e1) ⟨_, rfl, hX, Below.refl _ _, rfl⟩
                          case hd =>
                            intro a2 X hX hL hd _
                            have h131 : a2.tmps.getD 131 undef = .bool true := hd 17 131 (by kernel_rfl)
                            obtain ⟨f, ha, hf⟩ := hL.out [114, 115, 116, 117, 118, 119, 120, 121, 122, 123, 124, 125, 126, 127, 128, 129, 130, 131] (by kernel_rfl)
                            have h131' : f 131 = .bool true := (hf 131).trans h131
                            simp only [List.foldl_cons, List.foldl_nil, List.setIfInBounds_toArray, List.set_cons_zero, List.set_cons_succ, h131'] at ha
                            clear hf hd hL h131
                            subst ha
                            have HX := Lib.hid (HB.out.trans (hX.mono HB.out.size))
                            clear hX
                            go_wp2
                            go_ret2
                            exact ⟨by rw [HR.out.1, HR.out.2]; rfl, HX.out⟩
                        · have CO := Lib.hid (fun V => xOne_any x V (by omega) (by omega))
                          obtain ⟨D, hDe⟩ : ∃ D : ByteArray, ⟨(dOne x).toArray⟩ = D := ⟨_, rfl⟩
                          obtain ⟨E, hEe⟩ : ∃ E : ByteArray, s.extract p (p + (e + 1)) = E := ⟨_, rfl⟩
                          have hsl : ∀ X : World, (Instr.sliceAt 9 (.string s) (some (.int .i64 (p : Nat))) (some (.int .i64 ((p : Int) + e + 1))) none).run Tryz.prog X = .ok (.string E) X := fun X => by
                            have := slice_ok X s p (p + (e + 1)) (by omega) (by omega)
                            rw [hEe, show ((p + (e + 1) : Nat) : Int) = (p : Int) + e + 1 by omega] at this
                            exact this
                          have hDl : D.toList = dOne x := by rw [← hDe, ByteArray.toList_eq]
                          rw [hDe] at CO
                          rw [hEe] at ht6
                          by_cases hq : D = E
                          · have c3 : dOne x = L.take (e + 1) := by rw [← hDl, hq, ht6]
                            have HR := Lib.hid (HYes.out c1 (by omega) c3)
                            have HC1 := Lib.hid c1
                            have HAV := Lib.hid hav
                            have HQ := Lib.hid hq
                            have we := HWE.out
                            clear hes c1 hav hq g1 hp hs hen hd hb2 hk3 hll ht6 hlt HG HSUM HNo HYes haa hDl hDe c3 hEe q6 q7 z6
                            go_wp2_with fail
                            refine wp_region_guarded (fun X => Below wr.heap.size wr X) (fun U V => Below U.heap.size U V) (pR3 s p e x av D E) (by kernel_rfl) (by kernel_rfl) (by kernel_rfl) (show Below wr.heap.size wr (wr.drewN 1) from below_drewN (Below.refl _ _) 1) ?hp ?hs ?hd
                            case hp =>
                              intro i v U V _ _ hk hv
                              unfold pR3 at hv ⊢
                              split at hv <;> exact hv
                            case hs =>
                                refine GSteps.cons ?_ (GSteps.cons ?_ (GSteps.cons ?_ (GSteps.cons ?_ (GSteps.cons ?_ (GSteps.cons ?_ (GSteps.cons ?_ (GSteps.cons ?_ (GSteps.cons ?_ (GSteps.cons ?_ (GSteps.cons ?_ (GSteps.cons ?_ (GSteps.cons ?_ (GSteps.cons ?_ (GSteps.cons ?_ (GSteps.cons ?_ (GSteps.cons ?_ (GSteps.cons ?_ (GSteps.nil))))))))))))))))))
                                · intro a X hX hL hd
                                  refine .inl ⟨rfl, ?_⟩
                                  have e0 : a.eval (.tmp 10) = .int .i64 x := hL.far 10 (by kernel_rfl)
                                  exact wp_value (exec_move rfl e0) ⟨_, rfl, hX, Below.refl _ _, rfl⟩
                                · intro a X hX hL hd
                                  refine .inl ⟨rfl, ?_⟩
                                  have e0 : a.eval (.tmp 114) = .int .i64 x := hd 0 114 (by kernel_rfl) (by kernel_rfl)
                                  exact wp_value (exec_binop rfl e0 rfl (gtrx_no X _ _ x (by have := HC1.out; omega))) ⟨_, rfl, hX, Below.refl _ _, rfl⟩
                                · intro a X hX hL hd
                                  refine .inl ⟨rfl, ?_⟩
                                  have e0 : a.eval (.tmp 115) = .bool false := hd 1 115 (by kernel_rfl) (by kernel_rfl)
                                  exact wp_value (exec_move rfl e0) ⟨_, rfl, hX, Below.refl _ _, rfl⟩
                                · intro a X hX hL hd
                                  refine .inl ⟨wanted_true 116 rfl (by kernel_rfl) (hd 2 116 (by kernel_rfl) (by kernel_rfl)), ?_⟩
                                  have e0 : a.eval (.tmp 10) = .int .i64 x := hL.far 10 (by kernel_rfl)
                                  exact wp_value (exec_move rfl e0) ⟨_, rfl, hX, Below.refl _ _, rfl⟩
                                · intro a X hX hL hd
                                  refine .inl ⟨wanted_true 116 rfl (by kernel_rfl) (hd 2 116 (by kernel_rfl) (by kernel_rfl)), ?_⟩
                                  have e0 : a.eval (.tmp 117) = .int .i64 x := hd 3 117 (by kernel_rfl) (by kernel_rfl)
                                  exact wp_value (exec_convert rfl e0 (cvx X)) ⟨_, rfl, hX, Below.refl _ _, rfl⟩
                                · intro a X hX hL hd
                                  refine .inl ⟨wanted_true 116 rfl (by kernel_rfl) (hd 2 116 (by kernel_rfl) (by kernel_rfl)), ?_⟩
                                  have e0 : a.eval (.tmp 118) = .int .i32 x := hd 4 118 (by kernel_rfl) (by kernel_rfl)
                                  refine wp_enter (exec_call (vs := #[.int .i32 x]) rfl (by simp only [List.map_toArray, List.map_cons, List.map_nil, e0]) Tryz.func44 rfl rfl) ?_
                                  refine (CN.out X).mono ?_
                                  rintro r w' ⟨rfl, rfl⟩
                                  exact ⟨_, rfl, _, rfl, hX, Below.refl _ _, rfl⟩
                                · intro a X hX hL hd
                                  refine .inl ⟨wanted_true 116 rfl (by kernel_rfl) (hd 2 116 (by kernel_rfl) (by kernel_rfl)), ?_⟩
                                  have e0 : a.eval (.tmp 119) = .int .i64 av := hd 5 119 (by kernel_rfl) (by kernel_rfl)
                                  exact wp_value (exec_binop rfl e0 rfl (lssa_no X _ _ av (by have := HAV.out; omega))) ⟨_, rfl, hX, Below.refl _ _, rfl⟩
                                · intro a X hX hL hd
                                  refine .inl ⟨rfl, ?_⟩
                                  have e0 : a.eval (.tmp 116) = .bool false := hd 2 116 (by kernel_rfl) (by kernel_rfl)
                                  have e1 : a.eval (.tmp 120) = .bool false := hd 6 120 (by kernel_rfl) (by kernel_rfl)
                                  exact wp_value (exec_pick rfl e0 rfl e1) ⟨_, rfl, hX, Below.refl _ _, rfl⟩
                                · intro a X hX hL hd
                                  refine .inl ⟨rfl, ?_⟩
                                  have e0 : a.eval (.tmp 121) = .bool false := hd 7 121 (by kernel_rfl) (by kernel_rfl)
                                  exact wp_value (exec_move rfl e0) ⟨_, rfl, hX, Below.refl _ _, rfl⟩
                                · intro a X hX hL hd
                                  refine .inl ⟨wanted_true 122 rfl (by kernel_rfl) (hd 8 122 (by kernel_rfl) (by kernel_rfl)), ?_⟩
                                  have e0 : a.eval (.tmp 10) = .int .i64 x := hL.far 10 (by kernel_rfl)
                                  exact wp_value (exec_move rfl e0) ⟨_, rfl, hX, Below.refl _ _, rfl⟩
                                · intro a X hX hL hd
                                  refine .inl ⟨wanted_true 122 rfl (by kernel_rfl) (hd 8 122 (by kernel_rfl) (by kernel_rfl)), ?_⟩
                                  have e0 : a.eval (.tmp 123) = .int .i64 x := hd 9 123 (by kernel_rfl) (by kernel_rfl)
                                  exact wp_value (exec_convert rfl e0 (cvx X)) ⟨_, rfl, hX, Below.refl _ _, rfl⟩
                                · intro a X hX hL hd
                                  refine .inl ⟨wanted_true 122 rfl (by kernel_rfl) (hd 8 122 (by kernel_rfl) (by kernel_rfl)), ?_⟩
                                  have e0 : a.eval (.tmp 124) = .int .i32 x := hd 10 124 (by kernel_rfl) (by kernel_rfl)
                                  refine wp_enter (exec_call (vs := #[.int .i32 x]) rfl (by simp only [List.map_toArray, List.map_cons, List.map_nil, e0]) Tryz.func102 rfl rfl) ?_
                                  refine (CO.out X).mono ?_
                                  rintro r w' ⟨rfl, hb⟩
                                  exact ⟨_, rfl, _, rfl, hX.trans (hb.mono hX.size), hb, rfl⟩
                                · intro a X hX hL hd
                                  refine .inl ⟨wanted_true 122 rfl (by kernel_rfl) (hd 8 122 (by kernel_rfl) (by kernel_rfl)), ?_⟩
                                  have e0 : a.eval (.tmp 0) = .string s := hL.far 0 (by kernel_rfl)
                                  exact wp_value (exec_move rfl e0) ⟨_, rfl, hX, Below.refl _ _, rfl⟩
                                · intro a X hX hL hd
                                  refine .inl ⟨wanted_true 122 rfl (by kernel_rfl) (hd 8 122 (by kernel_rfl) (by kernel_rfl)), ?_⟩
                                  have e0 : a.eval (.tmp 1) = .int .i64 (p : Nat) := hL.far 1 (by kernel_rfl)
                                  exact wp_value (exec_move rfl e0) ⟨_, rfl, hX, Below.refl _ _, rfl⟩
                                · intro a X hX hL hd
                                  refine .inl ⟨wanted_true 122 rfl (by kernel_rfl) (hd 8 122 (by kernel_rfl) (by kernel_rfl)), ?_⟩
                                  have e0 : a.eval (.tmp 6) = .int .i64 ((p : Int) + e + 1) := hL.far 6 (by kernel_rfl)
                                  exact wp_value (exec_move rfl e0) ⟨_, rfl, hX, Below.refl _ _, rfl⟩
                                · intro a X hX hL hd
                                  refine .inl ⟨wanted_true 122 rfl (by kernel_rfl) (hd 8 122 (by kernel_rfl) (by kernel_rfl)), ?_⟩
                                  have e0 : a.eval (.tmp 126) = .string s := hd 12 126 (by kernel_rfl) (by kernel_rfl)
                                  have e1 : a.eval (.tmp 127) = .int .i64 (p : Nat) := hd 13 127 (by kernel_rfl) (by kernel_rfl)
                                  have e2 : a.eval (.tmp 128) = .int .i64 ((p : Int) + e + 1) := hd 14 128 (by kernel_rfl) (by kernel_rfl)
                                  exact wp_value (exec_sliceS rfl e0 e1 e2 (hsl X)) ⟨_, rfl, hX, Below.refl _ _, rfl⟩
                                · intro a X hX hL hd
                                  refine .inl ⟨wanted_true 122 rfl (by kernel_rfl) (hd 8 122 (by kernel_rfl) (by kernel_rfl)), ?_⟩
                                  have e0 : a.eval (.tmp 125) = .string D := hd 11 125 (by kernel_rfl) (by kernel_rfl)
                                  have e1 : a.eval (.tmp 129) = .string E := hd 15 129 (by kernel_rfl) (by kernel_rfl)
                                  exact wp_value (exec_binop rfl e0 e1 (neqD_no X _ _ D E HQ.out)) ⟨_, rfl, hX, Below.refl _ _, rfl⟩
                                · intro a X hX hL hd
                                  refine .inl ⟨rfl, ?_⟩
                                  have e0 : a.eval (.tmp 122) = .bool false := hd 8 122 (by kernel_rfl) (by kernel_rfl)
                                  have e1 : a.eval (.tmp 130) = .bool false := hd 16 130 (by kernel_rfl) (by kernel_rfl)
                                  exact wp_value (exec_pick rfl e0 rfl e1) ⟨_, rfl, hX, Below.refl _ _, rfl⟩
                            case hd =>
                              intro a2 X hX hL hd _
                              have h131 : a2.tmps.getD 131 undef = .bool false := hd 17 131 (by kernel_rfl)
                              obtain ⟨f, ha, hf⟩ := hL.out [114, 115, 116, 117, 118, 119, 120, 121, 122, 123, 124, 125, 126, 127, 128, 129, 130, 131] (by kernel_rfl)
                              have h131' : f 131 = .bool false := (hf 131).trans h131
                              simp only [List.foldl_cons, List.foldl_nil, List.setIfInBounds_toArray, List.set_cons_zero, List.set_cons_succ, h131'] at ha
                              clear hf hd hL h131
                              subst ha
                              have HX := Lib.hid (HB.out.trans (hX.mono HB.out.size))
                              clear hX
                              go_wp2_with fail
                              refine (CN2.out _).mono ?_
                              rintro r w2 ⟨rfl, rfl⟩
                              go_wp2
                              go_ret2
                              exact ⟨by rw [HR.out.1, HR.out.2]; rfl, HX.out⟩
                          · have c3 : ¬ dOne x = L.take (e + 1) := fun h => hq (by
                              have h2 : D.toList = E.toList := by rw [hDl, ht6, h]
                              rw [ByteArray.toList_eq, ByteArray.toList_eq, Array.toList_inj] at h2
                              exact ByteArray.ext h2)
                            have HR := Lib.hid (HNo.out (.inr (.inr c3)))
                            have HC1 := Lib.hid c1
                            have HAV := Lib.hid hav
                            have HQ := Lib.hid hq
                            have we := HWE.out
                            clear hes c1 hav hq g1 hp hs hen hd hb2 hk3 hll ht6 hlt HG HSUM HNo HYes haa hDl hDe c3 hEe q6 q7 z6
                            go_wp2_with fail
                            refine wp_region_guarded (fun X => Below wr.heap.size wr X) (fun U V => Below U.heap.size U V) (pR4 s p e x av D E) (by kernel_rfl) (by kernel_rfl) (by kernel_rfl) (show Below wr.heap.size wr (wr.drewN 1) from below_drewN (Below.refl _ _) 1) ?hp ?hs ?hd
                            case hp =>
                              intro i v U V _ _ hk hv
                              unfold pR4 at hv ⊢
                              split at hv <;> exact hv
                            case hs =>
                                refine GSteps.cons ?_ (GSteps.cons ?_ (GSteps.cons ?_ (GSteps.cons ?_ (GSteps.cons ?_ (GSteps.cons ?_ (GSteps.cons ?_ (GSteps.cons ?_ (GSteps.cons ?_ (GSteps.cons ?_ (GSteps.cons ?_ (GSteps.cons ?_ (GSteps.cons ?_ (GSteps.cons ?_ (GSteps.cons ?_ (GSteps.cons ?_ (GSteps.cons ?_ (GSteps.cons ?_ (GSteps.nil))))))))))))))))))
                                · intro a X hX hL hd
                                  refine .inl ⟨rfl, ?_⟩
                                  have e0 : a.eval (.tmp 10) = .int .i64 x := hL.far 10 (by kernel_rfl)
                                  exact wp_value (exec_move rfl e0) ⟨_, rfl, hX, Below.refl _ _, rfl⟩
                                · intro a X hX hL hd
                                  refine .inl ⟨rfl, ?_⟩
                                  have e0 : a.eval (.tmp 114) = .int .i64 x := hd 0 114 (by kernel_rfl) (by kernel_rfl)
                                  exact wp_value (exec_binop rfl e0 rfl (gtrx_no X _ _ x (by have := HC1.out; omega))) ⟨_, rfl, hX, Below.refl _ _, rfl⟩
                                · intro a X hX hL hd
                                  refine .inl ⟨rfl, ?_⟩
                                  have e0 : a.eval (.tmp 115) = .bool false := hd 1 115 (by kernel_rfl) (by kernel_rfl)
                                  exact wp_value (exec_move rfl e0) ⟨_, rfl, hX, Below.refl _ _, rfl⟩
                                · intro a X hX hL hd
                                  refine .inl ⟨wanted_true 116 rfl (by kernel_rfl) (hd 2 116 (by kernel_rfl) (by kernel_rfl)), ?_⟩
                                  have e0 : a.eval (.tmp 10) = .int .i64 x := hL.far 10 (by kernel_rfl)
                                  exact wp_value (exec_move rfl e0) ⟨_, rfl, hX, Below.refl _ _, rfl⟩
                                · intro a X hX hL hd
                                  refine .inl ⟨wanted_true 116 rfl (by kernel_rfl) (hd 2 116 (by kernel_rfl) (by kernel_rfl)), ?_⟩
                                  have e0 : a.eval (.tmp 117) = .int .i64 x := hd 3 117 (by kernel_rfl) (by kernel_rfl)
                                  exact wp_value (exec_convert rfl e0 (cvx X)) ⟨_, rfl, hX, Below.refl _ _, rfl⟩
                                · intro a X hX hL hd
                                  refine .inl ⟨wanted_true 116 rfl (by kernel_rfl) (hd 2 116 (by kernel_rfl) (by kernel_rfl)), ?_⟩
                                  have e0 : a.eval (.tmp 118) = .int .i32 x := hd 4 118 (by kernel_rfl) (by kernel_rfl)
                                  refine wp_enter (exec_call (vs := #[.int .i32 x]) rfl (by simp only [List.map_toArray, List.map_cons, List.map_nil, e0]) Tryz.func44 rfl rfl) ?_
                                  refine (CN.out X).mono ?_
                                  rintro r w' ⟨rfl, rfl⟩
                                  exact ⟨_, rfl, _, rfl, hX, Below.refl _ _, rfl⟩
                                · intro a X hX hL hd
                                  refine .inl ⟨wanted_true 116 rfl (by kernel_rfl) (hd 2 116 (by kernel_rfl) (by kernel_rfl)), ?_⟩
                                  have e0 : a.eval (.tmp 119) = .int .i64 av := hd 5 119 (by kernel_rfl) (by kernel_rfl)
                                  exact wp_value (exec_binop rfl e0 rfl (lssa_no X _ _ av (by have := HAV.out; omega))) ⟨_, rfl, hX, Below.refl _ _, rfl⟩
                                · intro a X hX hL hd
                                  refine .inl ⟨rfl, ?_⟩
                                  have e0 : a.eval (.tmp 116) = .bool false := hd 2 116 (by kernel_rfl) (by kernel_rfl)
                                  have e1 : a.eval (.tmp 120) = .bool false := hd 6 120 (by kernel_rfl) (by kernel_rfl)
                                  exact wp_value (exec_pick rfl e0 rfl e1) ⟨_, rfl, hX, Below.refl _ _, rfl⟩
                                · intro a X hX hL hd
                                  refine .inl ⟨rfl, ?_⟩
                                  have e0 : a.eval (.tmp 121) = .bool false := hd 7 121 (by kernel_rfl) (by kernel_rfl)
                                  exact wp_value (exec_move rfl e0) ⟨_, rfl, hX, Below.refl _ _, rfl⟩
                                · intro a X hX hL hd
                                  refine .inl ⟨wanted_true 122 rfl (by kernel_rfl) (hd 8 122 (by kernel_rfl) (by kernel_rfl)), ?_⟩
                                  have e0 : a.eval (.tmp 10) = .int .i64 x := hL.far 10 (by kernel_rfl)
                                  exact wp_value (exec_move rfl e0) ⟨_, rfl, hX, Below.refl _ _, rfl⟩
                                · intro a X hX hL hd
                                  refine .inl ⟨wanted_true 122 rfl (by kernel_rfl) (hd 8 122 (by kernel_rfl) (by kernel_rfl)), ?_⟩
                                  have e0 : a.eval (.tmp 123) = .int .i64 x := hd 9 123 (by kernel_rfl) (by kernel_rfl)
                                  exact wp_value (exec_convert rfl e0 (cvx X)) ⟨_, rfl, hX, Below.refl _ _, rfl⟩
                                · intro a X hX hL hd
                                  refine .inl ⟨wanted_true 122 rfl (by kernel_rfl) (hd 8 122 (by kernel_rfl) (by kernel_rfl)), ?_⟩
                                  have e0 : a.eval (.tmp 124) = .int .i32 x := hd 10 124 (by kernel_rfl) (by kernel_rfl)
                                  refine wp_enter (exec_call (vs := #[.int .i32 x]) rfl (by simp only [List.map_toArray, List.map_cons, List.map_nil, e0]) Tryz.func102 rfl rfl) ?_
                                  refine (CO.out X).mono ?_
                                  rintro r w' ⟨rfl, hb⟩
                                  exact ⟨_, rfl, _, rfl, hX.trans (hb.mono hX.size), hb, rfl⟩
                                · intro a X hX hL hd
                                  refine .inl ⟨wanted_true 122 rfl (by kernel_rfl) (hd 8 122 (by kernel_rfl) (by kernel_rfl)), ?_⟩
                                  have e0 : a.eval (.tmp 0) = .string s := hL.far 0 (by kernel_rfl)
                                  exact wp_value (exec_move rfl e0) ⟨_, rfl, hX, Below.refl _ _, rfl⟩
                                · intro a X hX hL hd
                                  refine .inl ⟨wanted_true 122 rfl (by kernel_rfl) (hd 8 122 (by kernel_rfl) (by kernel_rfl)), ?_⟩
                                  have e0 : a.eval (.tmp 1) = .int .i64 (p : Nat) := hL.far 1 (by kernel_rfl)
                                  exact wp_value (exec_move rfl e0) ⟨_, rfl, hX, Below.refl _ _, rfl⟩
                                · intro a X hX hL hd
                                  refine .inl ⟨wanted_true 122 rfl (by kernel_rfl) (hd 8 122 (by kernel_rfl) (by kernel_rfl)), ?_⟩
                                  have e0 : a.eval (.tmp 6) = .int .i64 ((p : Int) + e + 1) := hL.far 6 (by kernel_rfl)
                                  exact wp_value (exec_move rfl e0) ⟨_, rfl, hX, Below.refl _ _, rfl⟩
                                · intro a X hX hL hd
                                  refine .inl ⟨wanted_true 122 rfl (by kernel_rfl) (hd 8 122 (by kernel_rfl) (by kernel_rfl)), ?_⟩
                                  have e0 : a.eval (.tmp 126) = .string s := hd 12 126 (by kernel_rfl) (by kernel_rfl)
                                  have e1 : a.eval (.tmp 127) = .int .i64 (p : Nat) := hd 13 127 (by kernel_rfl) (by kernel_rfl)
                                  have e2 : a.eval (.tmp 128) = .int .i64 ((p : Int) + e + 1) := hd 14 128 (by kernel_rfl) (by kernel_rfl)
                                  exact wp_value (exec_sliceS rfl e0 e1 e2 (hsl X)) ⟨_, rfl, hX, Below.refl _ _, rfl⟩
                                · intro a X hX hL hd
                                  refine .inl ⟨wanted_true 122 rfl (by kernel_rfl) (hd 8 122 (by kernel_rfl) (by kernel_rfl)), ?_⟩
                                  have e0 : a.eval (.tmp 125) = .string D := hd 11 125 (by kernel_rfl) (by kernel_rfl)
                                  have e1 : a.eval (.tmp 129) = .string E := hd 15 129 (by kernel_rfl) (by kernel_rfl)
                                  exact wp_value (exec_binop rfl e0 e1 (neqD_yes X _ _ D E HQ.out)) ⟨_, rfl, hX, Below.refl _ _, rfl⟩
                                · intro a X hX hL hd
                                  refine .inl ⟨rfl, ?_⟩
                                  have e0 : a.eval (.tmp 122) = .bool false := hd 8 122 (by kernel_rfl) (by kernel_rfl)
                                  have e1 : a.eval (.tmp 130) = .bool true := hd 16 130 (by kernel_rfl) (by kernel_rfl)
                                  exact wp_value (exec_pick rfl e0 rfl e1) ⟨_, rfl, hX, Below.refl _ _, rfl⟩
                            case hd =>
                              intro a2 X hX hL hd _
                              have h131 : a2.tmps.getD 131 undef = .bool true := hd 17 131 (by kernel_rfl)
                              obtain ⟨f, ha, hf⟩ := hL.out [114, 115, 116, 117, 118, 119, 120, 121, 122, 123, 124, 125, 126, 127, 128, 129, 130, 131] (by kernel_rfl)
                              have h131' : f 131 = .bool true := (hf 131).trans h131
                              simp only [List.foldl_cons, List.foldl_nil, List.setIfInBounds_toArray, List.set_cons_zero, List.set_cons_succ, h131'] at ha
                              clear hf hd hL h131
                              subst ha
                              have HX := Lib.hid (HB.out.trans (hX.mono HB.out.size))
                              clear hX
                              go_wp2
                              go_ret2
                              exact ⟨by rw [HR.out.1, HR.out.2]; rfl, HX.out⟩
                · have HU : Hid (L[e]? ≠ some 125) := Lib.hid (fun h => by
                    rw [HCe] at h
                    injection h with h
                    rw [h] at hb
                    exact hb5 hb.symm)
                  have hq : (b != 125) = true := by simpa using hb5
                  clear he hes hp hs g1 g2 hen hb HCe hpre hq
                  have we := HWE.out
                  go_wp2
                  clear we
                  go_roundw
                  case rel => exact ⟨n + 1, by omega, by omega, by go_num, fun h4 => by omega, fun _ _ _ => HU.out, HI.out.2.2⟩
                  case measure => simp [RowKit.intOf]; omega
              · have t3 : ¬ (s.extract p (p + 3)).toList = [92, 117, 123] := fun h => hpre ((HT.out 3).symm.trans h)
                clear he hes hp hs g1 g2 hen
                go_wp2
                go_roundw
                case rel => exact ⟨n + 1, by omega, by omega, by go_num, fun h4 => by omega, fun _ _ h => absurd h hpre, HI.out.2.2⟩
                case measure => simp [RowKit.intOf]; omega
            · have mn : ((e : Int) + 1 != (n : Int) + 4) = true := by simp; omega
              clear he hes hp hs g1 g2
              go_wp2
              go_roundw
              case rel => exact ⟨n + 1, by omega, by omega, by go_num, fun h4 => by omega, fun h4 hn => HI.out.2.1 h4 (by omega), HI.out.2.2⟩
              case measure => simp [RowKit.intOf]; omega
        · obtain rfl : n = 9 := by omega
          have HE : Hid (rdX L (e + 1) ∧ rdU L (e + 1)) := Lib.hid ⟨rdX_next HXU.out.1 (fun h => hx (by omega) (by omega)), rdU_next HXU.out.2.1 (fun h4 h3 => hu h4 (by omega) h3)⟩
          have HB := Lib.hid hbx
          clear hx hu hbx
          go_wp2
          go_roundw
          case rel => exact ⟨e + 1, by omega, by omega, by go_num, HE.out.1, HE.out.2, HB.out⟩
          case measure => simp [RowKit.intOf]; omega
    · have HE : Hid (R1 = -1 ∧ R2 = 0) := Lib.hid (by
        have := HN.out (rd_end (e := e) (by have := HLen.out; omega) he hx hu)
        exact ⟨congrArg Prod.fst this, congrArg Prod.snd this⟩)
      have HB := Lib.hid hbw
      clear hx hu hbw
      by_cases h1 : p + e < s.size
      · have i1 : (p : Int) + e < s.size := by omega
        have i2 : ¬ (p : Int) + e < (p : Int) + 10 := by omega
        clear hgo
        go_wp2
        go_ret2
        exact ⟨by rw [HE.out.1, HE.out.2]; rfl, HB.out⟩
      · have i1 : ¬ (p : Int) + e < s.size := by omega
        clear hgo
        go_wp2
        go_ret2
        exact ⟨by rw [HE.out.1, HE.out.2]; rfl, HB.out⟩
end Go.Proofs.YtjbkpcdpdifpnaaGreatDoor
