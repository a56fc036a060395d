/- The document's put and says. -/
import Derived.Test.YtjbkpcdpdifpnaaGreatDoorRx
namespace Go.Proofs.YtjbkpcdpdifpnaaGreatDoor
open Go Go.RowKit Go.Kt Go.Kt.Rg
attribute [local go_sem] Oper.semAt_some

theorem putL_at : ∀ (l : List Int) (n : Int) (a : Nat), (∀ x ∈ l.take a, x < n) → a ≤ l.length → (∀ y, l[a]? = some y → ¬ y < n) → putL l n = if l[a]? = some n then l else l.take a ++ n :: l.drop a
  | [], n, a, _, ha, _ => by
    obtain rfl : a = 0 := by simpa using ha
    rfl
  | x :: t, n, 0, _, _, h2 => by
    have := h2 x rfl
    rw [putL, if_neg this]
    by_cases hx : x = n
    · subst hx
      simp
    · rw [if_neg hx, if_neg (by simpa using hx)]
      rfl
  | x :: t, n, a + 1, h1, ha, h2 => by
    have hx : x < n := h1 x (by simp)
    have ih := putL_at t n a (fun y hy => h1 y (by simp [hy])) (by simpa using ha) (fun y hy => h2 y (by simpa using hy))
    rw [putL, if_pos hx, ih]
    simp only [List.getElem?_cons_succ, List.take_succ_cons, List.drop_succ_cons]
    split <;> rfl
abbrev intV (l : List Int) : List Value := l.map fun x => .int .i64 x
theorem tinfoInt : (Tryz.prog.info? 3).map (fun i => (i.zero, i.size, i.bytes)) = some (some (.int .i64 0), 1, 8) := by kernel_rfl
theorem append_int {Y : Nat → Prop} {ao : Option Addr} {n cp : Nat} {l : List Int} {W : World} (hown : OwnS Y 3 1 (.slice ao n cp) n (intV l) W) (x : Int) (hn : n ≤ 2199023255552) :
    ∃ g cap w', (∀ ty, (Builtin.append_ #[168, 168] ty #[.slice ao n cp, .slice (some ⟨W.heap.size, 0, none⟩) 1 1]).run Tryz.prog (W.alloc (.cells #[.int .i64 x] 3)) = .ok (.slice (some ⟨g, 0, none⟩) (n + 1) cap) w') ∧
      OwnS (fun b => (Value.slice ao n cp).ownBlock = some b ∨ W.heap.size ≤ b) 3 1 (.slice (some ⟨g, 0, none⟩) (n + 1) cap) (n + 1) (intV (l ++ [x])) w' ∧ W.heap.size < w'.heap.size ∧ Keep (fun b => (Value.slice ao n cp).ownBlock = some b) W w' := by
  obtain ⟨g, cap, w2, hrun, hown2, hk2, hg2, hz2⟩ := append_x (P := Tryz.prog) W 168 3 Tryz.underlying168 tinfoInt rfl (by omega) hown [.int .i64 x] rfl
    (by intro u hu; simp at hu; subst hu; rfl) (by unfold maxLen; omega) (by omega)
  refine ⟨g, cap, w2, hrun, ?_, hz2, hk2⟩
  rw [show intV (l ++ [x]) = intV l ++ [.int .i64 x] by unfold intV; rw [List.map_append]; rfl]
  exact hown2.weaken (fun b h => by subst h; rcases hg2 with h | h; exact .inl h; exact .inr (by omega))
theorem own_int_at {Y : Nat → Prop} {ao : Option Addr} {n cp : Nat} {l : List Int} {W : World} (h : OwnS Y 3 1 (.slice ao n cp) n (intV l) W) {i : Nat} {x : Int} (hx : l[i]? = some x) (hn : i < n) :
    ∃ g, ao = some ⟨g, 0, none⟩ ∧ W.cell? ⟨g, i, none⟩ = some (.int .i64 x) ∧ W.frozen? ⟨g, i, none⟩ = false := by
  rcases h.shape with ⟨hv, h0⟩ | ⟨g, cap, hv, _, _⟩
  · omega
  · injection hv with e1 _ e3
    subst e1 e3
    exact ⟨g, rfl, h.at0 (by rw [List.getElem?_map, hx]; rfl), h.frozen i⟩
theorem own_int_set {Y : Nat → Prop} {g n cp : Nat} {l : List Int} {W : World} (h : OwnS Y 3 1 (.slice (some ⟨g, 0, none⟩) n cp) n (intV l) W) (i : Nat) (x : Int) : OwnS Y 3 1 (.slice (some ⟨g, 0, none⟩) n cp) n (intV (l.set i x)) (W.setCell ⟨g, i, none⟩ (.int .i64 x)) := by
  have := (h.1.stored i (.int .i64 x)).1
  rw [show intV (l.set i x) = (intV l).set i (.int .i64 x) by unfold intV; rw [List.map_set]]
  exact ⟨this, h.2⟩
theorem hole_step {l : List Int} {i : Nat} {z y : Int} (hi : 0 < i) (hl : i ≤ l.length) (hy : l[i - 1]? = some y) : (l.take i ++ z :: l.drop i).set i y = l.take i ++ y :: l.drop i ∧ (l.take i ++ y :: l.drop i) = l.take (i - 1) ++ y :: l.drop (i - 1) := by
  constructor
  · rw [List.set_append_right _ _ (by rw [List.length_take]; omega), List.length_take, show i - min i l.length = 0 by omega, List.set_cons_zero]
  · obtain ⟨k, rfl⟩ : ∃ k, i = k + 1 := ⟨i - 1, by omega⟩
    rw [Nat.add_sub_cancel] at hy ⊢
    rw [List.take_add_one, hy]
    have hk : k < l.length := by omega
    rw [show l.drop k = l[k] :: l.drop (k + 1) from List.drop_eq_getElem_cons hk]
    rw [List.getElem?_eq_getElem hk] at hy
    injection hy with hy
    rw [hy]
    simp
theorem hole_get {l : List Int} {i j : Nat} {z y : Int} (hj : j < i) (hy : l[j]? = some y) (hl : i ≤ l.length) : (l.take i ++ z :: l.drop i)[j]? = some y := by
  rw [List.getElem?_append_left (by rw [List.length_take]; omega), List.getElem?_take_of_lt hj]; exact hy
theorem hole_len (l : List Int) (i : Nat) (z : Int) : (l.take i ++ z :: l.drop i).length = l.length + 1 := by
  rw [List.length_append, List.length_cons, List.length_take, List.length_drop]; omega

set_option maxRecDepth 100000 in
set_option maxHeartbeats 1000000 in
theorem xput_any (l : List Int) (n : Int) (Y : Nat → Prop) (ao : Option Addr) (m cp : Nat) (w : World) (hm : m = l.length) (ho : OwnS Y 3 1 (.slice ao m cp) m (intV l) w) (hN : m ≤ 1099511627776) :
    Calls Tryz.prog 131 #[.slice ao m cp, .int .i64 n] w fun e w' => ∃ ao' m' cp', e = .returned (.slice ao' m' cp') ∧ m' = (putL l n).length ∧ OwnS (fun b => Y b ∨ w.heap.size ≤ b) 3 1 (.slice ao' m' cp') m' (intV (putL l n)) w' ∧ Keep Y w w' := by
  have HO := Lib.hid ho
  have HM := Lib.hid hm
  clear ho hm
  go_enter Tryz.func131, Tryz.ntmps131
  go_wp2
  go_loopw [5] (fun x wr => ∃ a : Nat, x = .int .i64 a ∧ a ≤ m ∧ (∀ x ∈ l.take a, x < n) ∧ w = wr) (fun x _ => m - (RowKit.intOf x).toNat)
  case atStart => exact ⟨0, rfl, by omega, by simp, rfl⟩
  case round =>
    obtain ⟨a, rfl, ha, hlt, rfl⟩ := hrel
    have HLT := Lib.hid hlt
    clear hlt
    by_cases hgo : a < m
    · have hgo' : (a : Int) < m := by omega
      obtain ⟨x, hx⟩ : ∃ x, l[a]? = some x := ⟨_, List.getElem?_eq_getElem (by rw [← HM.out]; exact hgo)⟩
      obtain ⟨g, rfl, cx, _⟩ := own_int_at HO.out hx hgo
      by_cases hxn : x < n
      · have HS : Hid (∀ x ∈ l.take (a + 1), x < n) := Lib.hid (fun y hy => by
          rw [List.take_add_one, hx] at hy
          rcases List.mem_append.1 hy with hy | hy
          · exact HLT.out y hy
          · simp at hy; rw [hy]; exact hxn)
        clear hx
        go_wp2
        go_roundw
        case rel => exact ⟨a + 1, by go_num, by omega, HS.out, by trivial⟩
        case measure => simp [RowKit.intOf]; omega
      · have HP := Lib.hid (putL_at l n a HLT.out (by rw [← HM.out]; omega) (fun y hy => by rw [hx] at hy; cases hy; exact hxn))
        by_cases hxe : x = n
        · have hq : (x == n) = true := by rw [hxe]; simp
          have HE : Hid (putL l n = l) := Lib.hid (by rw [HP.out, if_pos (by rw [hx, hxe])])
          subst hxe
          clear hx HP
          go_wp2
          go_ret
          exact ⟨_, _, _, rfl, by rw [HE.out]; exact HM.out, by rw [HE.out]; exact HO.out.weaken (fun b h => .inl h), Keep.refl _ _⟩
        · have hq : (x == n) = false := by rw [beq_eq_false_iff_ne]; exact hxe
          have HE : Hid (putL l n = l.take a ++ n :: l.drop a) := Lib.hid (by rw [HP.out, if_neg (by rw [hx]; simpa using hxe)])
          clear hx HP
          obtain ⟨g3, cap3, w2, hrun, hown, hz2, hk2⟩ := append_int HO.out 0 (by omega)
          have hyy : ∀ b, (Value.slice (some ⟨g, 0, none⟩) m cp).ownBlock = some b → Y b := HO.out.2
          have hlm : a ≤ l.length := by rw [← HM.out]; omega
          have hownI : OwnS (fun b => Y b ∨ w.heap.size ≤ b) 3 1 (.slice (some ⟨g3, 0, none⟩) (m + 1) cap3) (m + 1) (intV (l.take m ++ 0 :: l.drop m)) w2 := by
            have e : l.take m ++ 0 :: l.drop m = l ++ [0] := by rw [HM.out, List.take_length, List.drop_length]
            rw [e]
            exact hown.weaken (fun b h => by rcases h with h | h; exact .inl (hyy b h); exact .inr h)
          have HI := Lib.hid (And.intro hownI (hk2.weaken (Y := Y) fun b _ h => hyy b h))
          have HRun := Lib.hid hrun
          have HL := Lib.hid hlm
          have hw1 : IntKind.i64.wrap ((m : Int) + 1 - 1) = (m : Int) := by rw [show (m : Int) + 1 - 1 = m by omega]; exact IntWalk.i64_in _ (by omega)
          clear hown hk2 hrun hz2 hownI hyy hlm
          go_wp2_with (at_builtin; refine wpList_append_eq rfl rfl rfl rfl HRun.out ?_)
          obtain ⟨V0, hV0⟩ : ∃ V : World, V = w2 := ⟨_, rfl⟩
          subst hV0
          go_loopw [6] (fun x wr => ∃ (i : Nat) (z : Int), x = .int .i64 i ∧ a ≤ i ∧ i ≤ m ∧ OwnS (fun b => Y b ∨ w.heap.size ≤ b) 3 1 (.slice (some ⟨g3, 0, none⟩) (m + 1) cap3) (m + 1) (intV (l.take i ++ z :: l.drop i)) wr ∧ Keep Y w wr) (fun x _ => (RowKit.intOf x).toNat)
          case atStart => exact ⟨m, 0, by go_num, by omega, by omega, HI.out.1, HI.out.2⟩
          case round =>
            obtain ⟨i, z, rfl, hai, him, hown, hk⟩ := hrel
            clear HI
            have HI := Lib.hid (And.intro hown hk)
            have hlen := hole_len l i z
            rw [← HM.out] at hlen
            by_cases hgt : a < i
            · have hgt' : (a : Int) < (i : Int) := by omega
              obtain ⟨y, hy⟩ : ∃ y, l[i - 1]? = some y := ⟨_, List.getElem?_eq_getElem (by rw [← HM.out]; omega)⟩
              obtain ⟨s1, s2⟩ := hole_step (z := z) (by omega) (by rw [← HM.out]; omega) hy
              have hget : (l.take i ++ z :: l.drop i)[i - 1]? = some y := hole_get (by omega) hy (by rw [← HM.out]; omega)
              obtain ⟨u, hu⟩ : ∃ u, (l.take i ++ z :: l.drop i)[i]? = some u := ⟨_, List.getElem?_eq_getElem (by rw [hlen]; omega)⟩
              obtain ⟨_, e1, cy, _⟩ := own_int_at hown hget (by omega)
              cases e1
              obtain ⟨_, e1, cu, fu⟩ := own_int_at hown hu (by omega)
              cases e1
              have hset := own_int_set hown i y
              rw [s1, s2] at hset
              have hkk : Keep Y w (wr.setCell ⟨g3, i, none⟩ (.int .i64 y)) := by
                have hg := hown.2 g3 rfl
                rcases hg with hg | hg
                · exact hk.setCell hg _
                · exact hk.setCell_new hg _
              have HS := Lib.hid (And.intro hset hkk)
              obtain ⟨j, rfl⟩ : ∃ j, i = j + 1 := ⟨i - 1, by omega⟩
              rw [Nat.add_sub_cancel] at cy HS
              have hw2 : IntKind.i64.wrap ((j : Int) + 1 - 1) = (j : Int) := by rw [show (j : Int) + 1 - 1 = j by omega]; exact IntWalk.i64_in _ (by omega)
              clear hown hk hlen hy s1 s2 hget hu hset hkk hgt
              go_wp2
              go_roundw
              case rel => exact ⟨j, y, by go_num, by omega, by omega, HS.out.1, HS.out.2⟩
              case measure => first | (simp [RowKit.intOf]; done) | (simp [RowKit.intOf]; omega)
            · have hgt' : ¬ (a : Int) < (i : Int) := by omega
              obtain rfl : a = i := by omega
              obtain ⟨u, hu⟩ : ∃ u, (l.take a ++ z :: l.drop a)[a]? = some u := ⟨_, List.getElem?_eq_getElem (by rw [hlen]; omega)⟩
              obtain ⟨_, e1, cu, fu⟩ := own_int_at hown hu (by omega)
              cases e1
              have hset := own_int_set hown a n
              have s1 : (l.take a ++ z :: l.drop a).set a n = putL l n := by
                rw [HE.out, List.set_append_right _ _ (by rw [List.length_take]; omega), List.length_take, show a - min a l.length = 0 by have := HL.out; omega, List.set_cons_zero]
              rw [s1] at hset
              have hkk : Keep Y w (wr.setCell ⟨g3, a, none⟩ (.int .i64 n)) := by
                have hg := hown.2 g3 rfl
                rcases hg with hg | hg
                · exact hk.setCell hg _
                · exact hk.setCell_new hg _
              have HS := Lib.hid (And.intro hset hkk)
              have HPL : Hid (m + 1 = (putL l n).length) := Lib.hid (by rw [← s1, List.length_set, hlen])
              clear hown hk hlen hu hset hkk s1 hgt
              go_wp2
              go_ret
              exact ⟨_, _, _, rfl, HPL.out, HS.out.1, HS.out.2⟩
    · have hgo' : ¬ (a : Int) < m := by omega
      obtain rfl : a = m := by omega
      have HE : Hid (putL l n = l.take a ++ n :: l.drop a) := Lib.hid (by
        rw [putL_at l n a HLT.out (by rw [← HM.out]; omega) (fun y hy => by rw [List.getElem?_eq_none (by rw [← HM.out]; omega)] at hy; cases hy), if_neg (by rw [List.getElem?_eq_none (by rw [← HM.out]; omega)]; simp)])
      obtain ⟨g3, cap3, w2, hrun, hown, hz2, hk2⟩ := append_int HO.out 0 (by omega)
      have hyy : ∀ b, (Value.slice ao a cp).ownBlock = some b → Y b := HO.out.2
      have hlm : a ≤ l.length := by rw [← HM.out]; omega
      have hownI : OwnS (fun b => Y b ∨ w.heap.size ≤ b) 3 1 (.slice (some ⟨g3, 0, none⟩) (a + 1) cap3) (a + 1) (intV (l.take a ++ 0 :: l.drop a)) w2 := by
        have e : l.take a ++ 0 :: l.drop a = l ++ [0] := by rw [HM.out, List.take_length, List.drop_length]
        rw [e]
        exact hown.weaken (fun b h => by rcases h with h | h; exact .inl (hyy b h); exact .inr h)
      have HI := Lib.hid (And.intro hownI (hk2.weaken (Y := Y) fun b _ h => hyy b h))
      have HRun := Lib.hid hrun
      have HL := Lib.hid hlm
      have hw1 : IntKind.i64.wrap ((a : Int) + 1 - 1) = (a : Int) := by rw [show (a : Int) + 1 - 1 = a by omega]; exact IntWalk.i64_in _ (by omega)
      clear hown hk2 hrun hz2 hownI hyy hlm
      go_wp2_with (at_builtin; refine wpList_append_eq rfl rfl rfl rfl HRun.out ?_)
      obtain ⟨V0, hV0⟩ : ∃ V : World, V = w2 := ⟨_, rfl⟩
      subst hV0
      go_loopw [6] (fun x wr => ∃ (i : Nat) (z : Int), x = .int .i64 i ∧ a ≤ i ∧ i ≤ a ∧ OwnS (fun b => Y b ∨ w.heap.size ≤ b) 3 1 (.slice (some ⟨g3, 0, none⟩) (a + 1) cap3) (a + 1) (intV (l.take i ++ z :: l.drop i)) wr ∧ Keep Y w wr) (fun x _ => (RowKit.intOf x).toNat)
      case atStart => exact ⟨a, 0, by go_num, by omega, by omega, HI.out.1, HI.out.2⟩
      case round =>
        obtain ⟨i, z, rfl, hai, him, hown, hk⟩ := hrel
        clear HI
        have HI := Lib.hid (And.intro hown hk)
        have hlen := hole_len l i z
        rw [← HM.out] at hlen
        by_cases hgt : a < i
        · omega
        · have hgt' : ¬ (a : Int) < (i : Int) := by omega
          obtain rfl : a = i := by omega
          obtain ⟨u, hu⟩ : ∃ u, (l.take a ++ z :: l.drop a)[a]? = some u := ⟨_, List.getElem?_eq_getElem (by rw [hlen]; omega)⟩
          obtain ⟨_, e1, cu, fu⟩ := own_int_at hown hu (by omega)
          cases e1
          have hset := own_int_set hown a n
          have s1 : (l.take a ++ z :: l.drop a).set a n = putL l n := by
            rw [HE.out, List.set_append_right _ _ (by rw [List.length_take]; omega), List.length_take, show a - min a l.length = 0 by have := HL.out; omega, List.set_cons_zero]
          rw [s1] at hset
          have hkk : Keep Y w (wr.setCell ⟨g3, a, none⟩ (.int .i64 n)) := by
            have hg := hown.2 g3 rfl
            rcases hg with hg | hg
            · exact hk.setCell hg _
            · exact hk.setCell_new hg _
          have HS := Lib.hid (And.intro hset hkk)
          have HPL : Hid (a + 1 = (putL l n).length) := Lib.hid (by rw [← s1, List.length_set, hlen])
          clear hown hk hlen hu hset hkk s1 hgt
          go_wp2
          go_ret
          exact ⟨_, _, _, rfl, HPL.out, HS.out.1, HS.out.2⟩

set_option maxRecDepth 100000 in
theorem xsays_any (how : Nat) (a b : Bool) (w : World) (hh : how < 4) :
    Calls Tryz.prog 132 #[.int .i64 (how : Nat), .bool a, .bool b] w fun e w' => e = .returned (.bool (saysB how a b)) ∧ w = w' := by
  obtain rfl | rfl | rfl | rfl : how = 0 ∨ how = 1 ∨ how = 2 ∨ how = 3 := by omega
  all_goals
    cases a <;> cases b
    all_goals
      go_enter Tryz.func132, Tryz.ntmps132
      go_wp2
      go_ret
      exact ⟨rfl, rfl⟩
end Go.Proofs.YtjbkpcdpdifpnaaGreatDoor
