/- The document's answer for scan: text: the walk. -/
import Derived.Test.YtbnnhbmnddaafaaGreatDoorTj
import Derived.Test.YtbnnhbmnddaafaaGreatDoorTd
namespace Go.Proofs.YtbnnhbmnddaafaaGreatDoor
open Go Go.RowKit Go.Kt Go.Kt.Rg Go.Shelf Go.Lib
attribute [local go_sem] Oper.semAt_some

theorem ownB_addY {Y : Nat → Prop} {wr : World} {ao : Option Addr} {cp m : Nat} {acc : List UInt8} (hown : OwnB Y (.slice ao m cp) acc wr) (hm : m = acc.length) (hY : ∀ b, wr.heap.size < b → Y b) (y : UInt8) (hl : acc.length + 1 ≤ 140737488355328) :
    ∃ g3 cap3 w3, (∀ ty, (Builtin.append_ #[35, 35] ty #[.slice ao m cp, .slice (some ⟨wr.heap.size, 0, none⟩) 1 1]).run Tryz.prog (wr.alloc (.cells #[.int .u8 (y.toNat : Nat)] 5)) = .ok (.slice (some ⟨g3, 0, none⟩) (m + 1) cap3) w3) ∧
      OwnB Y (.slice (some ⟨g3, 0, none⟩) (m + 1) cap3) (acc ++ [y]) w3 ∧ Keep (fun b => (Value.slice ao m cp).ownBlock = some b) wr w3 ∧ m + 1 = (acc ++ [y]).length := by
  obtain ⟨g3, cap3, w3, hrun, hown3, hk3, hg3, hz3⟩ := append_b (P := Tryz.prog) wr 35 5 Tryz.underlying35 tinfo5 hown.1 (.int .u8 (y.toNat : Nat)) rfl hl
  subst hm
  have e1 : acc.length + 1 = (acc ++ [y]).length := by simp
  refine ⟨g3, cap3, w3, hrun, ⟨?_, ?_⟩, hk3, e1⟩
  · rw [← e1]
    have e2 : Lib.byteCells (acc ++ [y]) = Lib.byteCells acc ++ [.int .u8 (y.toNat : Nat)] := by simp [Lib.byteCells]
    rw [e2]
    exact hown3
  · intro b hb2
    have : g3 = b := by simpa [Value.ownBlock] using hb2
    subst this
    rcases hg3 with h | h
    · exact hown.2 _ h
    · exact hY _ h
theorem ownB_at {Y : Nat → Prop} {W : World} {ao : Option Addr} {cp : Nat} {l : List UInt8} (h : OwnB Y (.slice ao l.length cp) l W) {j : Nat} {y : UInt8} (hj : l[j]? = some y) : ∃ g, ao = some ⟨g, 0, none⟩ ∧ W.cell? ⟨g, j, none⟩ = some (.int .u8 (y.toNat : Nat)) := by
  have hlt := (List.getElem?_eq_some_iff.1 hj).1
  rcases h.1.2 with ⟨_, hn⟩ | ⟨g, cap, cur, fz, hv, _⟩
  · omega
  · injection hv with h1 h2 h3
    subst h1
    refine ⟨g, rfl, ?_⟩
    have := World.ownsRowF.cells h.1 (g := g) (by simp [Value.ownBlock]) j (.int .u8 (y.toNat : Nat)) (by simp [Lib.byteCells, hj])
    rw [Addr.add_lit] at this
    simpa using this
theorem xquo_bd (s : ByteArray) : ∀ (f k : Nat) (out y : List UInt8) (next : Nat), xquoF s f k out = some (y, next) → k < next ∧ next ≤ s.size ∧ y.length + k ≤ out.length + next := by
  intro f
  induction f with
  | zero => intro k out y next h; cases h
  | succ f ih =>
    intro k out y next h
    rw [xquoF] at h
    split at h
    · split at h
      · split at h
        · have := ih _ _ _ _ h
          simp only [List.length_append, List.length_cons, List.length_nil] at this
          omega
        · injection h with h
          injection h with h1 h2
          subst h1 h2
          omega
      · have := ih _ _ _ _ h
        simp only [List.length_append, List.length_cons, List.length_nil] at this
        omega
    · cases h

def textO (o : TxR) (e : Ending) : Prop := match o with
  | .ok x next => e = .returned (.tuple #[.string ⟨x.toArray⟩, .int .i64 (next : Nat), .int .i64 0])
  | .bad no j => e = .returned (.tuple #[.string ⟨#[]⟩, .int .i64 (j : Nat), .int .i64 (no : Nat)])
set_option maxRecDepth 100000 in
set_option maxHeartbeats 4000000 in
theorem xtext_any (s : ByteArray) (i : Nat) (w : World) (hs : s.size ≤ 1048576) (hi : i ≤ s.size) :
    Calls Tryz.prog 81 #[.string s, .int .i64 (i : Nat)] w fun e w' => textO (xtextV s i) e ∧ Below w.heap.size w w' := by
  obtain ⟨R, hR⟩ : ∃ R, xtextF s s.size i [] = R := ⟨_, rfl⟩
  have hR2 : xtextV s i = R := hR
  rw [hR2]
  have HR := Lib.hid hR
  clear hR hR2
  go_enter Tryz.func81, Tryz.ntmps81
  go_wp2
  go_loopw [1, 7] (fun v o wr => ∃ (k f : Nat) (ao : Option Addr) (cp m : Nat) (acc : List UInt8), k ≤ s.size ∧ s.size ≤ k + f ∧ v = .int .i64 k ∧ o = .slice ao m cp ∧ m = acc.length ∧ m ≤ 4 * k ∧ OwnB (fun b => w.heap.size ≤ b) (.slice ao m cp) acc wr ∧ Below w.heap.size w wr ∧ xtextF s f k acc = R)
    (fun v _ _ => s.size - (RowKit.intOf v).toNat)
  case atStart => exact ⟨i, s.size, none, 0, 0, [], hi, by omega, rfl, rfl, rfl, by omega, OwnB.nil _ _, Below.refl _ _, HR.out⟩
  case round =>
    obtain ⟨k, f, ao, cp, m, acc, hk, hf, rfl, rfl, hm, hmk, hown, hb, hc⟩ := hrel
    by_cases hlt : k < s.size
    · have HI : ∀ w, (Instr.index 9 (.string s) (.int .i64 (k : Nat))).run Tryz.prog w = .ok (.int .u8 (bAt s k)) w := fun w => run_bAt s k hlt w
      have hlt' : (k : Int) < s.size := by omega
      obtain ⟨f, rfl⟩ : ∃ f', f = f' + 1 := ⟨f - 1, by omega⟩
      rw [xtextF, if_pos hlt] at hc
      by_cases h39 : B s k = 39
      · rw [if_pos h39] at hc
        have hb39 : bAt s k = 39 := by rw [bAt_B, h39]; rfl
        rw [hb39] at HI
        have CQ := Lib.hid (fun V => xquoted_any s k V (by omega) (by omega))
        cases hq : xquoV s k with
        | none =>
          rw [hq] at CQ hc
          have HO : Hid (textO R (.returned (.tuple #[.string ⟨#[]⟩, .int .i64 (k : Nat), .int .i64 10]))) := Lib.hid (by rw [← hc]; rfl)
          have HB := Lib.hid hb
          clear hc hown hb hm h39 hb39 hq
          go_wp2_with (go_at_call 98; refine (CQ.out _).mono ?_; rintro e w1 ⟨hq1, hw1⟩; have hq2 : e = _ := hq1; subst hq2)
          go_ret3
          exact ⟨HO.out, HB.out.trans (hw1.mono HB.out.size)⟩
        | some r =>
          obtain ⟨bs, nx⟩ := r
          rw [hq] at CQ hc
          simp only at hc
          obtain ⟨x1, x2, x3⟩ := xquo_bd s _ _ _ _ _ hq
          simp only [List.length_nil] at x3
          have HM : Hid (m = acc.length ∧ m + bs.length ≤ 100000000 ∧ k < nx ∧ nx ≤ s.size ∧ m + bs.length ≤ 4 * nx ∧ xtextF s f nx (acc ++ bs) = R) := Lib.hid ⟨hm, by omega, by omega, by omega, by omega, hc⟩
          have HN := Lib.hid (And.intro hown hb)
          clear hc hown hb hm h39 hb39 hq x1 x2 x3
          go_wp2_with (go_at_call 98; refine (CQ.out _).mono ?_; rintro e w1 ⟨⟨ap, pcp, rfl, hpart⟩, hw1⟩; have HP := Lib.hid (And.intro hpart hw1); clear hpart hw1)
          obtain ⟨rs, hrs⟩ : ∃ rs, wr.heap.size = rs := ⟨_, rfl⟩
          have HX : Hid (OwnB (fun b => w.heap.size ≤ b ∧ (b < rs ∨ w1.heap.size ≤ b)) (.slice ao m cp) acc w1 ∧ OwnB (fun b => rs ≤ b ∧ b < w1.heap.size) (.slice ap bs.length pcp) bs w1 ∧ Below w.heap.size w w1 ∧ w.heap.size ≤ rs ∧ rs ≤ w1.heap.size) := Lib.hid (by
            obtain ⟨hown, hb⟩ := HN.out
            obtain ⟨hpart, hpb⟩ := HP.out
            rw [hrs] at hpart hpb
            have hz := hpb.size
            rw [hrs] at hz
            have hz2 := hb.size
            rw [hrs] at hz2
            refine ⟨(hown.lt.keep (X := fun _ => False) (B := w1) ⟨hpb.os, hpb.tape, hpb.output, hpb.size, fun c hc _ => hpb.block c (by rw [← hrs]; exact hc)⟩ (fun _ h => h.elim)).weaken (fun b h => ⟨h.1, .inl (by rw [← hrs]; exact h.2)⟩), hpart.lt, hb.trans (hpb.mono hz2), hz2, hz⟩)
          clear HP HN
          have hbz : bs.length ≤ 100000000 := by have := HM.out.2.1; omega
          go_wp2
          go_loopw [7, 13] (fun o jv wi => ∃ (j : Nat) (ao2 : Option Addr) (cp2 m2 : Nat), j ≤ bs.length ∧ jv = .int .i64 j ∧ o = .slice ao2 m2 cp2 ∧ m2 = m + j ∧ OwnB (fun b => w.heap.size ≤ b ∧ (b < rs ∨ w1.heap.size ≤ b)) (.slice ao2 m2 cp2) (acc ++ bs.take j) wi ∧ OwnB (fun b => rs ≤ b ∧ b < w1.heap.size) (.slice ap bs.length pcp) bs wi ∧ Below w.heap.size w wi ∧ w1.heap.size ≤ wi.heap.size)
            (fun _ jv _ => bs.length - (RowKit.intOf jv).toNat)
          case atStart => exact ⟨0, ao, cp, m, by omega, rfl, rfl, rfl, by simpa using HX.out.1, HX.out.2.1, HX.out.2.2.1, Nat.le_refl _⟩
          case round =>
            obtain ⟨j, ao2, cp2, m2, hj, rfl, rfl, hm2, hown2, hpart2, hb2, hz2⟩ := hrel
            by_cases hjl : j < bs.length
            · obtain ⟨y, hy⟩ : ∃ y, bs[j]? = some y := ⟨bs[j], List.getElem?_eq_getElem hjl⟩
              obtain ⟨g, rfl, pc⟩ := ownB_at hpart2 hy
              have hal : m2 = (acc ++ bs.take j).length := by rw [List.length_append, List.length_take, hm2, HM.out.1]; omega
              obtain ⟨g3, cap3, w3, hrun, hown3, hk3, hl3⟩ := ownB_addY hown2 hal (fun b hb => ⟨by have := HX.out.2.2.2; omega, .inr (by omega)⟩) y (by rw [← hal, hm2]; have := HM.out.2.1; omega)
              have HG : Hid (OwnB (fun b => w.heap.size ≤ b ∧ (b < rs ∨ w1.heap.size ≤ b)) (.slice (some ⟨g3, 0, none⟩) (m2 + 1) cap3) (acc ++ bs.take (j + 1)) w3 ∧ OwnB (fun b => rs ≤ b ∧ b < w1.heap.size) (.slice (some ⟨g, 0, none⟩) bs.length pcp) bs w3 ∧ Below w.heap.size w w3 ∧ w1.heap.size ≤ w3.heap.size) := Lib.hid (by
                refine ⟨?_, hpart2.keep hk3 (fun b hb hp => ?_), hb2.trans (hk3.below hb2.size fun b h => (hown2.2 b h).1), Nat.le_trans hz2 hk3.size⟩
                · rw [List.take_add_one, hy]
                  have e2 : acc ++ (bs.take j ++ (some y).toList) = acc ++ bs.take j ++ [y] := by simp
                  rw [e2]
                  exact hown3
                · have := (hown2.2 b hb).2
                  omega)
              have HR2 := Lib.hid hrun
              have HJ := Lib.hid hm2
              clear hrun hown3 hk3 hl3 hown2 hpart2 hb2 hz2 hal hm2 hy
              go_wp2_with (at_builtin; refine wpList_append_eq rfl rfl rfl rfl HR2.out ?_)
              go_roundw
              case rel => exact ⟨j + 1, some ⟨g3, 0, none⟩, cap3, m2 + 1, by omega, by go_num, rfl, by rw [HJ.out, Nat.add_assoc], HG.out⟩
              case measure => simp [RowKit.intOf]; omega
            · obtain rfl : j = bs.length := by omega
              rw [List.take_length] at hown2
              have HG := Lib.hid (And.intro hown2 (And.intro hb2 hm2))
              clear hown2 hb2 hm2 hpart2 hz2
              go_wp2
              go_roundw
              case rel => exact ⟨nx, f, ao2, cp2, m2, acc ++ bs, HM.out.2.2.2.1, by have := HM.out.2.2.1; omega, rfl, rfl, by rw [List.length_append, ← HM.out.1]; exact HG.out.2.2, by rw [HG.out.2.2]; exact HM.out.2.2.2.2.1, HG.out.1.weaken (fun _ h => h.1), HG.out.2.1, HM.out.2.2.2.2.2⟩
              case measure => have := HM.out.2.2; simp [RowKit.intOf]; omega
      · rw [if_neg h39] at hc
        have hb39 : (bAt s k == 39) = false := by rw [bAt_B]; simp; omega
        by_cases h92 : B s k = 92
        · rw [if_pos h92] at hc
          have hb92 : bAt s k = 92 := by rw [bAt_B, h92]; rfl
          rw [hb92] at HI
          clear hb39
          have CE := Lib.hid (fun V => xescaped_any s k V (by omega) hlt h92)
          cases hq : unescV (s.extract k s.size) with
          | none =>
            rw [hq] at CE hc
            have HO : Hid (textO R (.returned (.tuple #[.string ⟨#[]⟩, .int .i64 (k : Nat), .int .i64 9]))) := Lib.hid (by rw [← hc]; rfl)
            have HB := Lib.hid hb
            clear hc hown hb hm h39 hq h92 hb92
            go_wp2_with (go_at_call 99; refine (CE.out _).mono ?_; rintro e w1 ⟨hq1, hw1⟩; have hq2 : e = _ := hq1; subst hq2)
            go_ret3
            exact ⟨HO.out, HB.out.trans (hw1.mono HB.out.size)⟩
          | some r =>
            obtain ⟨bs, kk⟩ := r
            rw [hq] at CE hc
            simp only at hc
            have hz := rest_z (s := s) k
            obtain ⟨x1, -, x2⟩ := unesc_bd (by omega) hq
            have x3 := unesc_le (by omega) hq
            have x4 := unesc_ge hq
            obtain ⟨nx, hnx⟩ : ∃ nx, k + kk = nx := ⟨_, rfl⟩
            rw [hnx] at hc
            have CE2 : Hid (∀ V, Calls Tryz.prog 99 #[.string s, .int .i64 (k : Nat)] V fun e w' => (∃ ao cp, e = .returned (.tuple #[.slice ao bs.length cp, .int .i64 (nx : Nat), .int .i64 0]) ∧ OwnB (fun b => V.heap.size ≤ b) (.slice ao bs.length cp) bs w') ∧ Below V.heap.size V w') := Lib.hid fun V => by
              rw [← hnx]
              exact CE.out V
            have HM : Hid (m = acc.length ∧ m + bs.length ≤ 100000000 ∧ k < nx ∧ nx ≤ s.size ∧ m + bs.length ≤ 4 * nx ∧ xtextF s f nx (acc ++ bs) = R) := Lib.hid ⟨hm, by omega, by omega, by omega, by omega, hc⟩
            have HN := Lib.hid (And.intro hown hb)
            clear hc hown hb hm h39 hq x1 x2 x3 x4 h92 hb92 hnx hz CE
            go_wp2_with (go_at_call 99; refine (CE2.out _).mono ?_; rintro e w1 ⟨⟨ap, pcp, rfl, hpart⟩, hw1⟩; have HP := Lib.hid (And.intro hpart hw1); clear hpart hw1)
            obtain ⟨rs, hrs⟩ : ∃ rs, wr.heap.size = rs := ⟨_, rfl⟩
            have HX : Hid (OwnB (fun b => w.heap.size ≤ b ∧ (b < rs ∨ w1.heap.size ≤ b)) (.slice ao m cp) acc w1 ∧ OwnB (fun b => rs ≤ b ∧ b < w1.heap.size) (.slice ap bs.length pcp) bs w1 ∧ Below w.heap.size w w1 ∧ w.heap.size ≤ rs ∧ rs ≤ w1.heap.size) := Lib.hid (by
              obtain ⟨hown, hb⟩ := HN.out
              obtain ⟨hpart, hpb⟩ := HP.out
              rw [hrs] at hpart hpb
              have hz := hpb.size
              rw [hrs] at hz
              have hz2 := hb.size
              rw [hrs] at hz2
              refine ⟨(hown.lt.keep (X := fun _ => False) (B := w1) ⟨hpb.os, hpb.tape, hpb.output, hpb.size, fun c hc _ => hpb.block c (by rw [← hrs]; exact hc)⟩ (fun _ h => h.elim)).weaken (fun b h => ⟨h.1, .inl (by rw [← hrs]; exact h.2)⟩), hpart.lt, hb.trans (hpb.mono hz2), hz2, hz⟩)
            clear HP HN
            have hbz : bs.length ≤ 100000000 := by have := HM.out.2.1; omega
            go_wp2
            go_loopw [7, 13] (fun o jv wi => ∃ (j : Nat) (ao2 : Option Addr) (cp2 m2 : Nat), j ≤ bs.length ∧ jv = .int .i64 j ∧ o = .slice ao2 m2 cp2 ∧ m2 = m + j ∧ OwnB (fun b => w.heap.size ≤ b ∧ (b < rs ∨ w1.heap.size ≤ b)) (.slice ao2 m2 cp2) (acc ++ bs.take j) wi ∧ OwnB (fun b => rs ≤ b ∧ b < w1.heap.size) (.slice ap bs.length pcp) bs wi ∧ Below w.heap.size w wi ∧ w1.heap.size ≤ wi.heap.size)
              (fun _ jv _ => bs.length - (RowKit.intOf jv).toNat)
            case atStart => exact ⟨0, ao, cp, m, by omega, rfl, rfl, rfl, by simpa using HX.out.1, HX.out.2.1, HX.out.2.2.1, Nat.le_refl _⟩
            case round =>
              obtain ⟨j, ao2, cp2, m2, hj, rfl, rfl, hm2, hown2, hpart2, hb2, hz2⟩ := hrel
              by_cases hjl : j < bs.length
              · obtain ⟨y, hy⟩ : ∃ y, bs[j]? = some y := ⟨bs[j], List.getElem?_eq_getElem hjl⟩
                obtain ⟨g, rfl, pc⟩ := ownB_at hpart2 hy
                have hal : m2 = (acc ++ bs.take j).length := by rw [List.length_append, List.length_take, hm2, HM.out.1]; omega
                obtain ⟨g3, cap3, w3, hrun, hown3, hk3, hl3⟩ := ownB_addY hown2 hal (fun b hb => ⟨by have := HX.out.2.2.2; omega, .inr (by omega)⟩) y (by rw [← hal, hm2]; have := HM.out.2.1; omega)
                have HG : Hid (OwnB (fun b => w.heap.size ≤ b ∧ (b < rs ∨ w1.heap.size ≤ b)) (.slice (some ⟨g3, 0, none⟩) (m2 + 1) cap3) (acc ++ bs.take (j + 1)) w3 ∧ OwnB (fun b => rs ≤ b ∧ b < w1.heap.size) (.slice (some ⟨g, 0, none⟩) bs.length pcp) bs w3 ∧ Below w.heap.size w w3 ∧ w1.heap.size ≤ w3.heap.size) := Lib.hid (by
                  refine ⟨?_, hpart2.keep hk3 (fun b hb hp => ?_), hb2.trans (hk3.below hb2.size fun b h => (hown2.2 b h).1), Nat.le_trans hz2 hk3.size⟩
                  · rw [List.take_add_one, hy]
                    have e2 : acc ++ (bs.take j ++ (some y).toList) = acc ++ bs.take j ++ [y] := by simp
                    rw [e2]
                    exact hown3
                  · have := (hown2.2 b hb).2
                    omega)
                have HR2 := Lib.hid hrun
                have HJ := Lib.hid hm2
                clear hrun hown3 hk3 hl3 hown2 hpart2 hb2 hz2 hal hm2 hy
                go_wp2_with (at_builtin; refine wpList_append_eq rfl rfl rfl rfl HR2.out ?_)
                go_roundw
                case rel => exact ⟨j + 1, some ⟨g3, 0, none⟩, cap3, m2 + 1, by omega, by go_num, rfl, by rw [HJ.out, Nat.add_assoc], HG.out⟩
                case measure => simp [RowKit.intOf]; omega
              · obtain rfl : j = bs.length := by omega
                rw [List.take_length] at hown2
                have HG := Lib.hid (And.intro hown2 (And.intro hb2 hm2))
                clear hown2 hb2 hm2 hpart2 hz2
                go_wp2
                go_roundw
                case rel => exact ⟨nx, f, ao2, cp2, m2, acc ++ bs, HM.out.2.2.2.1, by have := HM.out.2.2.1; omega, rfl, rfl, by rw [List.length_append, ← HM.out.1]; exact HG.out.2.2, by rw [HG.out.2.2]; exact HM.out.2.2.2.2.1, HG.out.1.weaken (fun _ h => h.1), HG.out.2.1, HM.out.2.2.2.2.2⟩
                case measure => have := HM.out.2.2; simp [RowKit.intOf]; omega
        · rw [if_neg h92] at hc
          have hb92 : (bAt s k == 92) = false := by rw [bAt_B]; simp; omega
          have CB := Lib.hid (fun V => xBlank_any (bAt s k) V)
          have CS := Lib.hid (fun V => xSigns_any (bAt s k) V)
          rw [← bAt_B] at hc
          cases hbk : isBlk (bAt s k) with
          | true =>
            rw [if_pos (.inl hbk)] at hc
            rw [hbk] at CB
            subst hm
            have ht := hown.text
            have HO : Hid (textO R (.returned (.tuple #[.string ⟨acc.toArray⟩, .int .i64 (k : Nat), .int .i64 0])) ∧ Below w.heap.size w wr) := Lib.hid ⟨by rw [← hc]; rfl, hb⟩
            generalize bAt s k = b at *
            clear hc hown hb h39 h92 hbk
            go_wp2_with (first | (go_at_call 82; refine (CB.out _).mono ?_; rintro e w1 ⟨rfl, rfl⟩) | (simp only))
            all_goals
              go_ret3
              exact HO.out
          | false =>
            rw [hbk] at CB
            cases hsg : isSgs (bAt s k) with
            | true =>
              rw [if_pos (.inr hsg)] at hc
              rw [hsg] at CS
              subst hm
              have ht := hown.text
              have HO : Hid (textO R (.returned (.tuple #[.string ⟨acc.toArray⟩, .int .i64 (k : Nat), .int .i64 0])) ∧ Below w.heap.size w wr) := Lib.hid ⟨by rw [← hc]; rfl, hb⟩
              generalize bAt s k = b at *
              clear hc hown hb h39 h92 hbk hsg
              go_wp2_with (first | (go_at_call 82; refine (CB.out _).mono ?_; rintro e w1 ⟨rfl, rfl⟩) | (go_at_call 57; refine (CS.out _).mono ?_; rintro e w1 ⟨rfl, rfl⟩) | (simp only))
              all_goals
                go_ret3
                exact HO.out
            | false =>
              rw [if_neg (by rw [hbk, hsg]; decide)] at hc
              rw [hsg] at CS
              have hw := dec_width s k hlt
              have hsl := seg_len s k (k + unitW s k) (by omega) (by rw [unitW_dec hlt]; omega)
              have CN : Hid (∀ V, Calls Tryz.prog 83 #[.string s, .int .i64 (k : Nat)] V fun e w' => e = .returned (.tuple #[.int .i32 ((ptU s k).1 : Nat), .int .i64 (unitW s k : Nat)]) ∧ V = w') := Lib.hid fun V => by
                have := refNext_any s ((k : Nat) : Int) V (by omega)
                rw [ptP_in s k hlt, ptU_wide_eq, ← unitW_dec hlt] at this
                exact this
              have CY : Hid (∀ V, Calls Tryz.prog 58 #[.int .i32 ((ptU s k).1 : Nat)] V (NewB (seg s k (k + unitW s k)) V)) := Lib.hid fun V => by
                have := refBytes_any ((ptU s k).1 : Nat) V (ptU_point s k hlt)
                rw [ptU_bytes s k hlt, ptU_wide_eq, ← unitW_dec hlt] at this
                exact this
              rw [← unitW_dec hlt] at hw
              generalize (ptU s k).1 = pt at *
              generalize hbs : seg s k (k + unitW s k) = bs at *
              generalize unitW s k = uw at *
              obtain ⟨nx, hnx⟩ : ∃ nx, k + uw = nx := ⟨_, rfl⟩
              rw [hnx] at hc
              generalize bAt s k = b at *
              have hn4 : (uw : Int) ≤ 4 := by omega
              have hbl : bs.length ≤ 4 := by omega
              have HM : Hid (m = acc.length ∧ m + bs.length ≤ 100000000 ∧ k < nx ∧ nx ≤ s.size ∧ m + bs.length ≤ 4 * nx ∧ xtextF s f nx (acc ++ bs) = R) := Lib.hid ⟨hm, by omega, by omega, by omega, by omega, hc⟩
              have HN := Lib.hid (And.intro hown hb)
              have HNX : Hid ((k : Int) + (uw : Nat) = (nx : Nat)) := Lib.hid (by omega)
              clear hc hown hb hm h39 h92 hbk hsg hbs hw hsl hnx
              go_wp2_with (first | (go_at_call 82; refine (CB.out _).mono ?_; rintro e w1 ⟨rfl, rfl⟩) | (go_at_call 57; refine (CS.out _).mono ?_; rintro e w1 ⟨rfl, rfl⟩) | (go_at_call 83; refine (CN.out _).mono ?_; rintro e w1 ⟨rfl, rfl⟩) | fail)
              refine (CY.out _).mono ?_
              rintro e w1 ⟨rfl, hw1⟩
              obtain ⟨ap, hap⟩ : ∃ ap, (some (⟨wr.heap.size, 0, none⟩ : Addr)) = ap := ⟨_, rfl⟩
              have HP : Hid (OwnB (fun b => wr.heap.size ≤ b) (.slice ap bs.length bs.length) bs w1 ∧ Below wr.heap.size wr w1) := Lib.hid (by
                rw [← hap, hw1]
                exact ⟨newB_own (by omega), (Below.refl _ wr).alloc (Nat.le_refl _) _⟩)
              rw [hap]
              clear hap hw1 hbl
              obtain ⟨rs, hrs⟩ : ∃ rs, wr.heap.size = rs := ⟨_, rfl⟩
              have HX : Hid (OwnB (fun b => w.heap.size ≤ b ∧ (b < rs ∨ w1.heap.size ≤ b)) (.slice ao m cp) acc w1 ∧ OwnB (fun b => rs ≤ b ∧ b < w1.heap.size) (.slice ap bs.length bs.length) bs w1 ∧ Below w.heap.size w w1 ∧ w.heap.size ≤ rs ∧ rs ≤ w1.heap.size) := Lib.hid (by
                obtain ⟨hown, hb⟩ := HN.out
                obtain ⟨hpart, hpb⟩ := HP.out
                rw [hrs] at hpart hpb
                have hz := hpb.size
                rw [hrs] at hz
                have hz2 := hb.size
                rw [hrs] at hz2
                refine ⟨(hown.lt.keep (X := fun _ => False) (B := w1) ⟨hpb.os, hpb.tape, hpb.output, hpb.size, fun c hc _ => hpb.block c (by rw [← hrs]; exact hc)⟩ (fun _ h => h.elim)).weaken (fun b h => ⟨h.1, .inl (by rw [← hrs]; exact h.2)⟩), hpart.lt, hb.trans (hpb.mono hz2), hz2, hz⟩)
              clear HP HN
              have hbz : bs.length ≤ 100000000 := by have := HM.out.2.1; omega
              go_wp2
              rw [HNX.out]
              go_loopw [7, 13] (fun o jv wi => ∃ (j : Nat) (ao2 : Option Addr) (cp2 m2 : Nat), j ≤ bs.length ∧ jv = .int .i64 j ∧ o = .slice ao2 m2 cp2 ∧ m2 = m + j ∧ OwnB (fun b => w.heap.size ≤ b ∧ (b < rs ∨ w1.heap.size ≤ b)) (.slice ao2 m2 cp2) (acc ++ bs.take j) wi ∧ OwnB (fun b => rs ≤ b ∧ b < w1.heap.size) (.slice ap bs.length bs.length) bs wi ∧ Below w.heap.size w wi ∧ w1.heap.size ≤ wi.heap.size)
                (fun _ jv _ => bs.length - (RowKit.intOf jv).toNat)
              case atStart => exact ⟨0, ao, cp, m, by omega, rfl, rfl, rfl, by simpa using HX.out.1, HX.out.2.1, HX.out.2.2.1, Nat.le_refl _⟩
              case round =>
                obtain ⟨j, ao2, cp2, m2, hj, rfl, rfl, hm2, hown2, hpart2, hb2, hz2⟩ := hrel
                by_cases hjl : j < bs.length
                · obtain ⟨y, hy⟩ : ∃ y, bs[j]? = some y := ⟨bs[j], List.getElem?_eq_getElem hjl⟩
                  obtain ⟨g, rfl, pc⟩ := ownB_at hpart2 hy
                  have hal : m2 = (acc ++ bs.take j).length := by rw [List.length_append, List.length_take, hm2, HM.out.1]; omega
                  obtain ⟨g3, cap3, w3, hrun, hown3, hk3, hl3⟩ := ownB_addY hown2 hal (fun b hb => ⟨by have := HX.out.2.2.2; omega, .inr (by omega)⟩) y (by rw [← hal, hm2]; have := HM.out.2.1; omega)
                  have HG : Hid (OwnB (fun b => w.heap.size ≤ b ∧ (b < rs ∨ w1.heap.size ≤ b)) (.slice (some ⟨g3, 0, none⟩) (m2 + 1) cap3) (acc ++ bs.take (j + 1)) w3 ∧ OwnB (fun b => rs ≤ b ∧ b < w1.heap.size) (.slice (some ⟨g, 0, none⟩) bs.length bs.length) bs w3 ∧ Below w.heap.size w w3 ∧ w1.heap.size ≤ w3.heap.size) := Lib.hid (by
                    refine ⟨?_, hpart2.keep hk3 (fun b hb hp => ?_), hb2.trans (hk3.below hb2.size fun b h => (hown2.2 b h).1), Nat.le_trans hz2 hk3.size⟩
                    · rw [List.take_add_one, hy]
                      have e2 : acc ++ (bs.take j ++ (some y).toList) = acc ++ bs.take j ++ [y] := by simp
                      rw [e2]
                      exact hown3
                    · have := (hown2.2 b hb).2
                      omega)
                  have HR2 := Lib.hid hrun
                  have HJ := Lib.hid hm2
                  clear hrun hown3 hk3 hl3 hown2 hpart2 hb2 hz2 hal hm2 hy
                  go_wp2_with (at_builtin; refine wpList_append_eq rfl rfl rfl rfl HR2.out ?_)
                  go_roundw
                  case rel => exact ⟨j + 1, some ⟨g3, 0, none⟩, cap3, m2 + 1, by omega, by go_num, rfl, by rw [HJ.out, Nat.add_assoc], HG.out⟩
                  case measure => simp [RowKit.intOf]; omega
                · obtain rfl : j = bs.length := by omega
                  rw [List.take_length] at hown2
                  have HG := Lib.hid (And.intro hown2 (And.intro hb2 hm2))
                  clear hown2 hb2 hm2 hpart2 hz2
                  go_wp2
                  go_roundw
                  case rel => exact ⟨nx, f, ao2, cp2, m2, acc ++ bs, HM.out.2.2.2.1, by have := HM.out.2.2.1; omega, rfl, rfl, by rw [List.length_append, ← HM.out.1]; exact HG.out.2.2, by rw [HG.out.2.2]; exact HM.out.2.2.2.2.1, HG.out.1.weaken (fun _ h => h.1), HG.out.2.1, HM.out.2.2.2.2.2⟩
                  case measure => have := HM.out.2.2; simp [RowKit.intOf]; omega
    · have hke : k = s.size := by omega
      have hRe : R = .ok acc k := by
        rw [← hc]
        cases f with
        | zero => rfl
        | succ f => rw [xtextF, if_neg hlt]
      subst hm
      have ht := hown.text
      have HO : Hid (textO R (.returned (.tuple #[.string ⟨acc.toArray⟩, .int .i64 (k : Nat), .int .i64 0])) ∧ Below w.heap.size w wr) := Lib.hid ⟨by rw [hRe]; rfl, hb⟩
      have hge : ¬ (k : Int) < s.size := by omega
      clear hc hRe hown hb hke
      go_wp2_with (simp only [ht])
      all_goals
        go_ret3
        exact HO.out
end Go.Proofs.YtbnnhbmnddaafaaGreatDoor
