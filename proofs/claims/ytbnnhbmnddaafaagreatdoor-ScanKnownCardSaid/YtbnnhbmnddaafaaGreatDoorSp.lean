/- ScanPlaces: its walk. -/
import Derived.Test.YtbnnhbmnddaafaaGreatDoorGz13
import Derived.Test.YtbnnhbmnddaafaaGreatDoorK9
namespace Go.Proofs.YtbnnhbmnddaafaaGreatDoor
open Go Go.RowKit Go.Kt Go.Shelf Go.Lib
attribute [local go_sem] Oper.semAt_some

def pP0 (g N cap c K : Nat) (H : ByteArray) (jx : Nat) (v : Value) (_W : World) : Prop := match jx with
  | 0 => v = .slice (some ⟨g, 0, none⟩) N cap
  | 1 => v = .int .i64 0
  | 2 => v = .pointer (some ⟨g, 0, none⟩)
  | 3 => v = .pointer (some ⟨g, 2, none⟩)
  | 4 => v = .int .i64 ((K : Int) + 1)
  | 5 => v = .string H
  | 6 => v = .int .i64 (K : Nat)
  | 7 => v = .int .i64 ((K : Int) + 1)
  | 8 => v = .bool false
  | 9 => v = .bool false
  | 10 => v = .slice (some ⟨g, 0, none⟩) N cap
  | 11 => v = .int .i64 0
  | 12 => v = .pointer (some ⟨g, 0, none⟩)
  | 13 => v = .pointer (some ⟨g, 3, none⟩)
  | 14 => v = .int .i64 (c : Nat)
  | 15 => v = .int .i64 (c : Nat)
  | 16 => v = .bool false
  | 17 => v = .bool false
  | _ => True
def pP1 (g N cap c K i : Nat) (H : ByteArray) (jx : Nat) (v : Value) (_W : World) : Prop := match jx with
  | 0 => v = .slice (some ⟨g, 0, none⟩) N cap
  | 1 => v = .int .i64 (i : Nat)
  | 2 => v = .pointer (some ⟨g, i * 5, none⟩)
  | 3 => v = .pointer (some ⟨g, i * 5 + 2, none⟩)
  | 4 => v = .int .i64 ((K : Int) + 1)
  | 5 => v = .string H
  | 6 => v = .int .i64 (K : Nat)
  | 7 => v = .int .i64 ((K : Int) + 1)
  | 8 => v = .bool false
  | 9 => v = .bool false
  | 10 => v = .slice (some ⟨g, 0, none⟩) N cap
  | 11 => v = .int .i64 (i : Nat)
  | 12 => v = .pointer (some ⟨g, i * 5, none⟩)
  | 13 => v = .pointer (some ⟨g, i * 5 + 3, none⟩)
  | 14 => v = .int .i64 (c : Nat)
  | 15 => v = .int .i64 (c : Nat)
  | 16 => v = .bool false
  | 17 => v = .bool false
  | _ => True
set_option maxHeartbeats 4000000 in
set_option maxRecDepth 100000 in
theorem scanPlaces_c (s : ByteArray) (w : World) (hE : SEnv w) (_hB : BTab w) (_hl : 6 < w.heap.size) (hs : s.size ≤ 140737488351232) :
    Calls Tryz.prog 15 #[.string s] w fun e w' => e = .returned (.bool true) ∧ Below w.heap.size w w' := by
  have CS := Lib.hid (scan_any s w hE hs)
  have CW := Lib.hid (fun V (h : Below w.heap.size w V) => works_any5 V (hE.below h))
  clear hE _hB _hl
  cases ho : scanS s with
  | bad no l c =>
    rw [ho] at CS
    clear ho
    go_enter Tryz.func15, Tryz.ntmps15
    go_wp2_with fail
    refine CS.out.mono ?_
    rintro e w1 ⟨rfl, hb1⟩
    have HB1 := Lib.hid hb1
    clear hb1
    go_wp2_with (go_at_call 28; refine (CW.out _ HB1.out).mono ?_; rintro e w4 ⟨rfl, hb4⟩)
    go_ret
    exact ⟨rfl, HB1.out.trans (hb4.mono HB1.out.size)⟩
  | ok L =>
    obtain ⟨hok, L0, pE, hLe, hpE⟩ := scan_places s ho
    rw [ho] at CS
    clear ho
    by_cases hz : 20000 < s.size
    · have hz' : (20000 : Int) < s.size := by omega
      clear hok hLe hpE
      go_enter Tryz.func15, Tryz.ntmps15
      go_wp2_with fail
      refine CS.out.mono ?_
      rintro e w1 ⟨⟨g, cap, rfl, ho⟩, hb1⟩
      have HB1 := Lib.hid hb1
      clear hb1 ho
      go_wp2_with (go_at_call 28; refine (CW.out _ HB1.out).mono ?_; rintro e w4 ⟨rfl, hb4⟩)
      go_ret
      exact ⟨rfl, HB1.out.trans (hb4.mono HB1.out.size)⟩
    have hz' : ¬ (20000 : Int) < s.size := by omega
    have hz2 : s.size ≤ 20000 := by omega
    have HK := Lib.hid (And.intro hok (And.intro hLe hpE))
    clear hok hLe hpE hz hs
    go_enter Tryz.func15, Tryz.ntmps15
    go_wp2_with fail
    refine CS.out.mono ?_
    rintro e w2 ⟨⟨g, cap, rfl, ho⟩, hb1⟩
    have hgl : g < w2.heap.size := (ho.1.lt g rfl).2
    have HC : Hid (∀ (V : World) (i : Nat) (t : Tk), Below w2.heap.size w2 V → L[i]? = some t → V.cell? ⟨g, i * 5, none⟩ = some (.int .i64 (t.kind : Nat)) ∧ V.cell? ⟨g, i * 5 + 1, none⟩ = some (.string ⟨t.text.toArray⟩) ∧ V.cell? ⟨g, i * 5 + 2, none⟩ = some (.int .i64 (t.pl.1 : Nat)) ∧ V.cell? ⟨g, i * 5 + 3, none⟩ = some (.int .i64 (t.pl.2.1 : Nat)) ∧ V.cell? ⟨g, i * 5 + 4, none⟩ = some (.int .i64 (t.pl.2.2 : Nat))) := Lib.hid fun V i t hV ht => by
      have hc : ∀ k u, k < 5 → (tkC t)[k]? = some u → V.cell? ⟨g, i * 5 + k, none⟩ = some u := fun k u hk hu => (hV.cell (p := ⟨g, i * 5 + k, none⟩) hgl).trans (ownS_at ho (by rw [tksC_get L i k t ht hk]; exact hu))
      exact ⟨hc 0 _ (by decide) rfl, hc 1 _ (by decide) rfl, hc 2 _ (by decide) rfl, hc 3 _ (by decide) rfl, hc 4 _ (by decide) rfl⟩
    have HN2 : Hid (L.length ≤ maxLen) := Lib.hid (by
      rcases ho.1.2 with ⟨h, _⟩ | ⟨_, _, _, h, _, _, hnc, hcm, _⟩
      · cases h
      · omega)
    have HB1 := Lib.hid hb1
    obtain ⟨N, hN⟩ : ∃ N, L.length = N := ⟨_, rfl⟩
    rw [hN] at HN2 ⊢
    have hN3 : (N : Int) ≤ 20001 := by have h1 := toks_few HK.out.1; omega
    have HN := Lib.hid hN
    clear hb1 ho hgl CS hN
    go_wp2
    go_loopw [5] (fun v wr => ∃ i : Nat, v = .int .i64 i ∧ i ≤ N ∧ Below w2.heap.size w2 wr) (fun v _ => N - (RowKit.intOf v).toNat)
    case atStart => exact ⟨0, rfl, Nat.zero_le _, Below.refl _ _⟩
    case round =>
      obtain ⟨i, rfl, hi, hb⟩ := hrel
      obtain ⟨Wo, hWo⟩ : ∃ Wo, Wo = wr := ⟨_, rfl⟩
      subst hWo
      by_cases hlt : i < N
      · have hlt' : (i : Int) < N := by omega
        obtain ⟨t, ht⟩ : ∃ t, L[i]? = some t := ⟨_, List.getElem?_eq_getElem (by have := HN.out; omega)⟩
        obtain ⟨c0, c1, c2, c3, c4⟩ := HC.out Wo i t hb ht
        have hok := HK.out.1
        obtain ⟨n, hn⟩ := hok.pl t (List.mem_of_getElem? ht)
        have hat := plN_le s n
        rw [hn] at hat
        obtain ⟨kd, tx, ln, cl, at_⟩ := t
        simp only at c0 c1 c2 c3 c4 hat
        have hat' : (at_ : Int) ≤ s.size := by omega
        have HT := Lib.hid (And.intro ht (And.intro hn hb))
        clear ht hn hb hok
        have hpre : i = 0 ∨ ∃ u, 0 < i ∧ Wo.cell? ⟨g, (i - 1) * 5 + 4, none⟩ = some (.int .i64 (u : Nat)) ∧ u < at_ := by
          rcases Nat.eq_zero_or_pos i with h0 | h0
          · exact .inl h0
          · right
            obtain ⟨t0, ht0⟩ : ∃ t0, L[i - 1]? = some t0 := ⟨_, List.getElem?_eq_getElem (by have := HN.out; omega)⟩
            refine ⟨t0.pl.2.2, h0, (HC.out Wo (i - 1) t0 HT.out.2.2 ht0).2.2.2.2, ?_⟩
            obtain ⟨h1, h2⟩ := List.getElem?_eq_some_iff.1 ht0
            obtain ⟨h3, h4⟩ := List.getElem?_eq_some_iff.1 HT.out.1
            have := List.pairwise_iff_getElem.1 HK.out.1.up (i - 1) i h1 h3 (by omega)
            rw [h2, h4] at this
            exact this
        rcases hpre with rfl | ⟨u, hi0, hj, hju⟩
        · simp only [Nat.zero_mul, Nat.zero_add] at c0 c1 c2 c3 c4
          go_wp2
          go_loopw [8] (fun col wx => ∃ (m p c l : Nat), col = .int .i64 (c : Nat) ∧ plN s m = (l, c, p) ∧ p ≤ at_ ∧ Below w2.heap.size w2 wx ∧ wx.heap[Wo.heap.size]? = some (.stringIter (s.extract 0 at_) p)) (fun _ wx => at_ - iterPos wx Wo.heap.size)
          case atStart =>
            have hz := HT.out.2.2.size
            exact ⟨0, 0, 1, 1, rfl, rfl, Nat.zero_le _, HT.out.2.2.trans (((Below.refl _ Wo).alloc (Nat.le_refl _) (.stringIter (s.extract 0 at_) 0)).mono hz), World.alloc_heap_new Wo _⟩
          case round =>
            obtain ⟨m, p, c, l, rfl, hm, hp, hbx, hit⟩ := hrel
            have hltx : Wo.heap.size < wr.heap.size := (Array.getElem?_eq_some_iff.1 hit).1
            have hhz : (s.extract 0 at_).size = at_ := by rw [ByteArray.size_extract]; omega
            have hcb := plN_col s m
            rw [hm] at hcb
            simp only at hcb
            by_cases hpl : p < at_
            · have hn := HT.out.2.1
              have hnx2 := plN_next s (n := m) (m := n) (by rw [hm, hn]; exact hpl)
              rw [hm, hn] at hnx2
              simp only at hnx2
              have hst := plN_step s hm (by omega)
              have hdh := dec_head s p at_ hat hpl hnx2
              have hwd := (dec_width s p (by omega)).1
              have hrb : (Utf8.decode s p).1 ≤ 2147483647 := decode_le s p
              have HV0 : ∃ v, (Utf8.decode s p).2 = v := ⟨_, rfl⟩
              obtain ⟨v, hv⟩ := HV0
              rw [hv] at hnx2 hst hwd
              have HV := Lib.hid hv
              clear hv
              obtain ⟨r, hr⟩ : ∃ r, (Utf8.decode s p).1 = r := ⟨_, rfl⟩
              rw [hr] at hst hrb
              have hnx : ∀ ty, (Instr.next (.pointer (some ⟨Wo.heap.size, 0, none⟩)) true ty).run Tryz.prog wr = .ok (.tuple #[.bool true, .int .i64 p, .int .i32 r]) (wr.putObj Wo.heap.size (.stringIter (s.extract 0 at_) (p + (Utf8.decode (s.extract 0 at_) p).2))) := fun ty => by
                rw [run_next_str wr Wo.heap.size (s.extract 0 at_) p ty hit (by omega)]
                rw [hdh, hr]
              obtain ⟨W1, hW1⟩ : ∃ W1, wr.putObj Wo.heap.size (.stringIter (s.extract 0 at_) (p + (Utf8.decode (s.extract 0 at_) p).2)) = W1 := ⟨_, rfl⟩
              rw [hW1] at hnx
              have hdv : (Utf8.decode (s.extract 0 at_) p).2 = v := by rw [hdh]; exact HV.out
              have hit1 : W1.heap[Wo.heap.size]? = some (.stringIter (s.extract 0 at_) (p + v)) := by rw [← hW1, ← hdv]; exact World.putObj_heap_same hltx
              have hb1 : Below w2.heap.size w2 W1 := by rw [← hW1]; exact hbx.trans (below_putObj HT.out.2.2.size _)
              have hc1 : (c : Int) ≤ 20001 := by omega
              have HP := Lib.hid (And.intro hst (And.intro hit (And.intro hit1 (And.intro hb1 (And.intro hnx2 hwd)))))
              clear hst hit hit1 hb1 hnx2 hwd hdh hdv hW1 hbx hm hltx hn hr hhz
              by_cases h10 : r = 10
              · subst h10
                go_wp2
                go_roundw
                case rel =>
                  obtain ⟨hst, hit, hit1, hb1, hnx2, hwd⟩ := HP.out
                  rw [if_pos rfl] at hst
                  exact ⟨m + 1, p + v, 1, l + 1, rfl, hst, hnx2, hb1, hit1⟩
                case measure =>
                  obtain ⟨hst, hit, hit1, hb1, hnx2, hwd⟩ := HP.out
                  rw [iterPos_eq hit1, iterPos_eq hit]; omega
              · have n10 : ((r : Int) == 10) = false := by simp; omega
                go_wp2
                go_roundw
                case rel =>
                  obtain ⟨hst, hit, hit1, hb1, hnx2, hwd⟩ := HP.out
                  rw [if_neg h10] at hst
                  exact ⟨m + 1, p + v, c + 1, l, rfl, hst, hnx2, hb1, hit1⟩
                case measure =>
                  obtain ⟨hst, hit, hit1, hb1, hnx2, hwd⟩ := HP.out
                  rw [iterPos_eq hit1, iterPos_eq hit]; omega
            · have hpe : p = at_ := by omega
              subst hpe
              have hnx : ∀ ty, (Instr.next (.pointer (some ⟨Wo.heap.size, 0, none⟩)) true ty).run Tryz.prog wr = .ok (.tuple #[.bool false]) wr := fun ty => run_next_str_end wr Wo.heap.size (s.extract 0 p) p ty hit (by omega)
              have hone := plN_one s (n := m) (m := n) (by rw [hm, HT.out.2.1])
              rw [hm, HT.out.2.1] at hone
              injection hone with q1 hone
              injection hone with q2 _
              subst q1
              subst q2
              have hln := plN_line s n
              rw [HT.out.2.1] at hln
              simp only at hln
              obtain ⟨d0, d1, d2, d3, d4⟩ := HC.out wr _ _ hbx HT.out.1
              simp only [Nat.zero_mul, Nat.zero_add] at d0 d1 d2 d3 d4
              have hnh : nlc (s.extract 0 p) (s.extract 0 p).size = nlc s p := by
                unfold nlc
                have h1 : (s.extract 0 p).data.toList = s.data.toList.take p := by simp
                rw [h1, hhz, List.take_take, Nat.min_self]
              have CEn := Lib.hid (fun V => ended_any (s.extract 0 p) V (by rw [hhz]; omega))
              rw [hnh] at CEn
              obtain ⟨K, hK⟩ : ∃ K, nlc s p = K := ⟨_, rfl⟩
              rw [hK] at CEn hln
              rw [hln] at d2
              have hKb : K ≤ p := by
                rw [← hK]
                unfold nlc
                exact Nat.le_trans List.count_le_length (by rw [List.length_take]; exact Nat.min_le_left _ _)
              have HD := Lib.hid (And.intro d0 (And.intro d1 (And.intro d2 (And.intro d3 (And.intro d4 (And.intro hbx hit))))))
              have hK2 : (K : Int) ≤ 20000 := by omega
              have hc20 : (c : Int) ≤ 20001 := by omega
              clear hnh hK hln hhz hm hit hltx hbx hpl
              have hix : ∀ X : World, (Instr.indexAt 23 (.slice (some ⟨g, 0, none⟩) N cap) (.int .i64 0)).run Tryz.prog X = .ok (.pointer (some ⟨g, 0, none⟩)) X := fun X => by
                go_simp
                all_goals (intro h; exfalso; omega)
              have hf2 : ∀ X : World, (Instr.fieldAt 30 (.pointer (some ⟨g, 0, none⟩)) 2).run Tryz.prog X = .ok (.pointer (some ⟨g, 2, none⟩)) X := fun X => by go_simp
              have hf3 : ∀ X : World, (Instr.fieldAt 30 (.pointer (some ⟨g, 0, none⟩)) 3).run Tryz.prog X = .ok (.pointer (some ⟨g, 3, none⟩)) X := fun X => by go_simp
              have hl2 : ∀ X : World, Below wr.heap.size wr X → (Instr.loadAt 3 (.pointer (some ⟨g, 2, none⟩))).run Tryz.prog X = .ok (.int .i64 ((K : Int) + 1)) X := fun X hX => by
                have q : X.cell? ⟨g, 2, none⟩ = some (.int .i64 ((K : Int) + 1)) := (hX.cell (p := ⟨g, 2, none⟩) (Go.Kt.lt_of_cell d2)).trans d2
                go_simp
              have hl3 : ∀ X : World, Below wr.heap.size wr X → (Instr.loadAt 3 (.pointer (some ⟨g, 3, none⟩))).run Tryz.prog X = .ok (.int .i64 (c : Nat)) X := fun X hX => by
                have q : X.cell? ⟨g, 3, none⟩ = some (.int .i64 (c : Nat)) := (hX.cell (p := ⟨g, 3, none⟩) (Go.Kt.lt_of_cell d3)).trans d3
                go_simp
              have ha : ∀ X : World, (do eqGuard .add 3 (.tmp 75) (.const (.int .i64 1)) (.int .i64 (K : Nat)) (.int .i64 1); binOp .add 3 (.int .i64 (K : Nat)) (.int .i64 1) : Sem Value).run Tryz.prog X = .ok (.int .i64 ((K : Int) + 1)) X := fun X => by
                go_simp
                exact IntWalk.i64_in _ (by omega)
              have hn1 : ∀ X : World, (do eqGuard .neq 3 (.tmp 73) (.tmp 76) (.int .i64 ((K : Int) + 1)) (.int .i64 ((K : Int) + 1)); binOp .neq 3 (.int .i64 ((K : Int) + 1)) (.int .i64 ((K : Int) + 1)) : Sem Value).run Tryz.prog X = .ok (.bool false) X := fun X => by go_simp
              have hn2 : ∀ X : World, (do eqGuard .neq 3 (.tmp 83) (.tmp 84) (.int .i64 (c : Nat)) (.int .i64 (c : Nat)); binOp .neq 3 (.int .i64 (c : Nat)) (.int .i64 (c : Nat)) : Sem Value).run Tryz.prog X = .ok (.bool false) X := fun X => by go_simp
              go_wp2_with fail
              refine wp_region_guarded (fun X => Below wr.heap.size wr X) (fun U V => Below U.heap.size U V) (pP0 g N cap c K (s.extract 0 p)) (by kernel_rfl) (by kernel_rfl) (by kernel_rfl) ?hS ?hp ?hs ?hd
              case hS => exact (Below.refl _ wr).drew
              case hp => exact fun i v U V _ _ _ hv => hv
              case hs =>
                refine GSteps.cons ?_ (GSteps.cons ?_ (GSteps.cons ?_ (GSteps.cons ?_ (GSteps.cons ?_ (GSteps.cons ?_ (GSteps.cons ?_ (GSteps.cons ?_ (GSteps.cons ?_ (GSteps.cons ?_ (GSteps.cons ?_ (GSteps.cons ?_ (GSteps.cons ?_ (GSteps.cons ?_ (GSteps.cons ?_ (GSteps.cons ?_ (GSteps.cons ?_ (GSteps.cons ?_ (GSteps.nil))))))))))))))))))
                · intro a X hX hL hd
                  refine .inl ⟨rfl, ?_⟩
                  have e0 : a.eval (.tmp 3) = .slice (some ⟨g, 0, none⟩) N cap := hL.far 3 (by kernel_rfl)
                  exact wp_value (exec_move rfl e0) ⟨_, rfl, hX, Below.refl _ _, rfl⟩
                · intro a X hX hL hd
                  refine .inl ⟨rfl, ?_⟩
                  have e0 : a.eval (.tmp 5) = .int .i64 0 := hL.far 5 (by kernel_rfl)
                  exact wp_value (exec_move rfl e0) ⟨_, rfl, hX, Below.refl _ _, rfl⟩
                · intro a X hX hL hd
                  refine .inl ⟨rfl, ?_⟩
                  have e0 : a.eval (.tmp 69) = .slice (some ⟨g, 0, none⟩) N cap := hd 0 69 (by kernel_rfl) (by kernel_rfl)
                  have e1 : a.eval (.tmp 70) = .int .i64 0 := hd 1 70 (by kernel_rfl) (by kernel_rfl)
                  exact wp_value (exec_indexAddr rfl e0 e1 (hix X)) ⟨_, rfl, hX, Below.refl _ _, rfl⟩
                · intro a X hX hL hd
                  refine .inl ⟨rfl, ?_⟩
                  have e0 : a.eval (.tmp 71) = .pointer (some ⟨g, 0, none⟩) := hd 2 71 (by kernel_rfl) (by kernel_rfl)
                  exact wp_value (exec_fieldAddr rfl e0 (hf2 X)) ⟨_, rfl, hX, Below.refl _ _, rfl⟩
                · intro a X hX hL hd
                  refine .inl ⟨rfl, ?_⟩
                  have e0 : a.eval (.tmp 72) = .pointer (some ⟨g, 2, none⟩) := hd 3 72 (by kernel_rfl) (by kernel_rfl)
                  exact wp_value (exec_load rfl e0 (hl2 X hX)) ⟨_, rfl, hX, Below.refl _ _, rfl⟩
                · intro a X hX hL hd
                  refine .inl ⟨rfl, ?_⟩
                  have e0 : a.eval (.tmp 7) = .string (s.extract 0 p) := hL.far 7 (by kernel_rfl)
                  exact wp_value (exec_move rfl e0) ⟨_, rfl, hX, Below.refl _ _, rfl⟩
                · intro a X hX hL hd
                  refine .inl ⟨rfl, ?_⟩
                  have e0 : a.eval (.tmp 74) = .string (s.extract 0 p) := hd 5 74 (by kernel_rfl) (by kernel_rfl)
                  refine wp_enter (exec_call (vs := #[.string (s.extract 0 p)]) rfl (by simp only [List.map_toArray, List.map_cons, List.map_nil, e0]) Tryz.func33 rfl rfl) ?_
                  refine (CEn.out X).mono ?_
                  rintro e X2 ⟨rfl, rfl⟩
                  exact ⟨_, rfl, _, rfl, hX, Below.refl _ _, rfl⟩
                · intro a X hX hL hd
                  refine .inl ⟨rfl, ?_⟩
                  have e0 : a.eval (.tmp 75) = .int .i64 (K : Nat) := hd 6 75 (by kernel_rfl) (by kernel_rfl)
                  exact wp_value (exec_binop rfl e0 rfl (ha X)) ⟨_, rfl, hX, Below.refl _ _, rfl⟩
                · intro a X hX hL hd
                  refine .inl ⟨rfl, ?_⟩
                  have e0 : a.eval (.tmp 73) = .int .i64 ((K : Int) + 1) := hd 4 73 (by kernel_rfl) (by kernel_rfl)
                  have e1 : a.eval (.tmp 76) = .int .i64 ((K : Int) + 1) := hd 7 76 (by kernel_rfl) (by kernel_rfl)
                  exact wp_value (exec_binop rfl e0 e1 (hn1 X)) ⟨_, rfl, hX, Below.refl _ _, rfl⟩
                · intro a X hX hL hd
                  refine .inl ⟨rfl, ?_⟩
                  have e0 : a.eval (.tmp 77) = .bool false := hd 8 77 (by kernel_rfl) (by kernel_rfl)
                  exact wp_value (exec_move rfl e0) ⟨_, rfl, hX, Below.refl _ _, rfl⟩
                · intro a X hX hL hd
                  refine .inl ⟨wanted_true 78 rfl (by kernel_rfl) (hd 9 78 (by kernel_rfl) (by kernel_rfl)), ?_⟩
                  have e0 : a.eval (.tmp 3) = .slice (some ⟨g, 0, none⟩) N cap := hL.far 3 (by kernel_rfl)
                  exact wp_value (exec_move rfl e0) ⟨_, rfl, hX, Below.refl _ _, rfl⟩
                · intro a X hX hL hd
                  refine .inl ⟨wanted_true 78 rfl (by kernel_rfl) (hd 9 78 (by kernel_rfl) (by kernel_rfl)), ?_⟩
                  have e0 : a.eval (.tmp 5) = .int .i64 0 := hL.far 5 (by kernel_rfl)
                  exact wp_value (exec_move rfl e0) ⟨_, rfl, hX, Below.refl _ _, rfl⟩
                · intro a X hX hL hd
                  refine .inl ⟨wanted_true 78 rfl (by kernel_rfl) (hd 9 78 (by kernel_rfl) (by kernel_rfl)), ?_⟩
                  have e0 : a.eval (.tmp 79) = .slice (some ⟨g, 0, none⟩) N cap := hd 10 79 (by kernel_rfl) (by kernel_rfl)
                  have e1 : a.eval (.tmp 80) = .int .i64 0 := hd 11 80 (by kernel_rfl) (by kernel_rfl)
                  exact wp_value (exec_indexAddr rfl e0 e1 (hix X)) ⟨_, rfl, hX, Below.refl _ _, rfl⟩
                · intro a X hX hL hd
                  refine .inl ⟨wanted_true 78 rfl (by kernel_rfl) (hd 9 78 (by kernel_rfl) (by kernel_rfl)), ?_⟩
                  have e0 : a.eval (.tmp 81) = .pointer (some ⟨g, 0, none⟩) := hd 12 81 (by kernel_rfl) (by kernel_rfl)
                  exact wp_value (exec_fieldAddr rfl e0 (hf3 X)) ⟨_, rfl, hX, Below.refl _ _, rfl⟩
                · intro a X hX hL hd
                  refine .inl ⟨wanted_true 78 rfl (by kernel_rfl) (hd 9 78 (by kernel_rfl) (by kernel_rfl)), ?_⟩
                  have e0 : a.eval (.tmp 82) = .pointer (some ⟨g, 3, none⟩) := hd 13 82 (by kernel_rfl) (by kernel_rfl)
                  exact wp_value (exec_load rfl e0 (hl3 X hX)) ⟨_, rfl, hX, Below.refl _ _, rfl⟩
                · intro a X hX hL hd
                  refine .inl ⟨wanted_true 78 rfl (by kernel_rfl) (hd 9 78 (by kernel_rfl) (by kernel_rfl)), ?_⟩
                  have e0 : a.eval (.tmp 8) = .int .i64 (c : Nat) := hL.far 8 (by kernel_rfl)
                  exact wp_value (exec_move rfl e0) ⟨_, rfl, hX, Below.refl _ _, rfl⟩
                · intro a X hX hL hd
                  refine .inl ⟨wanted_true 78 rfl (by kernel_rfl) (hd 9 78 (by kernel_rfl) (by kernel_rfl)), ?_⟩
                  have e0 : a.eval (.tmp 83) = .int .i64 (c : Nat) := hd 14 83 (by kernel_rfl) (by kernel_rfl)
                  have e1 : a.eval (.tmp 84) = .int .i64 (c : Nat) := hd 15 84 (by kernel_rfl) (by kernel_rfl)
                  exact wp_value (exec_binop rfl e0 e1 (hn2 X)) ⟨_, rfl, hX, Below.refl _ _, rfl⟩
                · intro a X hX hL hd
                  refine .inl ⟨rfl, ?_⟩
                  have e0 : a.eval (.tmp 78) = .bool false := hd 9 78 (by kernel_rfl) (by kernel_rfl)
                  have e1 : a.eval (.tmp 85) = .bool false := hd 16 85 (by kernel_rfl) (by kernel_rfl)
                  exact wp_value (exec_pick rfl e0 rfl e1) ⟨_, rfl, hX, Below.refl _ _, rfl⟩
              case hd =>
                intro a X hX hL hP _
                obtain ⟨f, ha2, hf⟩ := hL.out [69, 70, 71, 72, 73, 74, 75, 76, 77, 78, 79, 80, 81, 82, 83, 84, 85, 86] rfl
                have v86 : f 86 = .bool false := (hf 86).trans (hP 17 86 (by kernel_rfl))
                have HX := Lib.hid hX
                clear hX hL hP hf hix hf2 hf3 hl2 hl3 ha hn1 hn2 CEn
                simp only [List.foldl_cons, List.foldl_nil, List.setIfInBounds_toArray, List.set_cons_zero, List.set_cons_succ, v86] at ha2
                subst ha2
                have hbX : Below w2.heap.size w2 X := HD.out.2.2.2.2.2.1.trans (HX.out.mono HD.out.2.2.2.2.2.1.size)
                obtain ⟨x0, x1, x2, x3, x4⟩ := HC.out X _ _ hbX HT.out.1
                simp only at x0 x1
                simp only [Nat.zero_mul, Nat.zero_add] at x0 x1 x2 x3 x4
                obtain ⟨T, hT⟩ : ∃ T : ByteArray, (⟨tx.toArray⟩ : ByteArray) = T := ⟨_, rfl⟩
                have hTl : T.data.toList = tx := by rw [← hT]
                have hTz : T.size = tx.length := by rw [← hT]; exact size_mk _
                rw [hT] at x1
                have hsg := HK.out.1.sg _ (List.mem_of_getElem? HT.out.1)
                simp only at hsg
                have HBX := Lib.hid hbX
                have HII : Hid (0 + 1 ≤ N) := Lib.hid (by omega)
                by_cases hk : kd = 2
                · obtain ⟨g1, g2⟩ := hsg hk
                  subst hk
                  have m1 : (p : Int) + (T.size : Int) ≤ s.size := by omega
                  have m2 : ¬ (s.size : Int) - (p : Int) < (T.size : Int) := by omega
                  have m4 : (s.size : Int) ≤ 20000 := by omega
                  have m7 : (p : Int) ≤ (p : Int) + (T.size : Int) := by omega
                  have m5 : IntKind.i64.wrap ((s.size : Int) - (p : Int)) = (s.size : Int) - (p : Int) := IntWalk.i64_in _ (by omega)
                  have m6 : IntKind.i64.wrap ((p : Int) + (T.size : Int)) = (p : Int) + (T.size : Int) := IntWalk.i64_in _ (by omega)
                  have hex : s.extract p (p + T.size) = T := by
                    apply ByteArray.ext
                    apply Array.toList_inj.1
                    rw [hTl, hTz]
                    exact g2
                  have m3 : ((p : Int) + (T.size : Int)).toNat = p + T.size := by omega
                  clear hsg hTl hTz hT g1 g2 hbX
                  go_wp2_with fail
                  go_quiet (fail)
                  go_wp2
                  go_roundw
                  case rel => exact ⟨0 + 1, by simp, HII.out, below_drewN HBX.out _⟩
                  case measure => simp [RowKit.intOf]; have := HII.out; omega
                · have nk : (((kd : Nat) : Int) == 2) = false := by simp; omega
                  clear hsg hTl hTz hT hk hbX
                  go_wp2_with fail
                  go_quiet (fail)
                  go_wp2
                  go_roundw
                  case rel => exact ⟨0 + 1, by simp, HII.out, below_drewN HBX.out _⟩
                  case measure => simp [RowKit.intOf]; have := HII.out; omega
        · have hju' : ¬ (at_ : Int) ≤ u := by omega
          have hi0' : (0 : Int) < i := by omega
          have hp1 : (0 : Int) ≤ (i : Int) - 1 := by omega
          have hp2 : (i : Int) - 1 < N := by omega
          have hp3 : IntKind.i64.wrap ((i : Int) - 1) = (i : Int) - 1 := IntWalk.i64_in _ (by omega)
          have hp4 : ((i : Int) - 1).toNat = i - 1 := by omega
          go_wp2
          clear hp1 hp2 hp3 hp4 hju' hj hju
          go_loopw [8] (fun col wx => ∃ (m p c l : Nat), col = .int .i64 (c : Nat) ∧ plN s m = (l, c, p) ∧ p ≤ at_ ∧ Below w2.heap.size w2 wx ∧ wx.heap[Wo.heap.size]? = some (.stringIter (s.extract 0 at_) p)) (fun _ wx => at_ - iterPos wx Wo.heap.size)
          case atStart =>
            have hz := HT.out.2.2.size
            exact ⟨0, 0, 1, 1, rfl, rfl, Nat.zero_le _, HT.out.2.2.trans (((Below.refl _ Wo).alloc (Nat.le_refl _) (.stringIter (s.extract 0 at_) 0)).mono hz), World.alloc_heap_new Wo _⟩
          case round =>
            obtain ⟨m, p, c, l, rfl, hm, hp, hbx, hit⟩ := hrel
            have hltx : Wo.heap.size < wr.heap.size := (Array.getElem?_eq_some_iff.1 hit).1
            have hhz : (s.extract 0 at_).size = at_ := by rw [ByteArray.size_extract]; omega
            have hcb := plN_col s m
            rw [hm] at hcb
            simp only at hcb
            by_cases hpl : p < at_
            · have hn := HT.out.2.1
              have hnx2 := plN_next s (n := m) (m := n) (by rw [hm, hn]; exact hpl)
              rw [hm, hn] at hnx2
              simp only at hnx2
              have hst := plN_step s hm (by omega)
              have hdh := dec_head s p at_ hat hpl hnx2
              have hwd := (dec_width s p (by omega)).1
              have hrb : (Utf8.decode s p).1 ≤ 2147483647 := decode_le s p
              have HV0 : ∃ v, (Utf8.decode s p).2 = v := ⟨_, rfl⟩
              obtain ⟨v, hv⟩ := HV0
              rw [hv] at hnx2 hst hwd
              have HV := Lib.hid hv
              clear hv
              obtain ⟨r, hr⟩ : ∃ r, (Utf8.decode s p).1 = r := ⟨_, rfl⟩
              rw [hr] at hst hrb
              have hnx : ∀ ty, (Instr.next (.pointer (some ⟨Wo.heap.size, 0, none⟩)) true ty).run Tryz.prog wr = .ok (.tuple #[.bool true, .int .i64 p, .int .i32 r]) (wr.putObj Wo.heap.size (.stringIter (s.extract 0 at_) (p + (Utf8.decode (s.extract 0 at_) p).2))) := fun ty => by
                rw [run_next_str wr Wo.heap.size (s.extract 0 at_) p ty hit (by omega)]
                rw [hdh, hr]
              obtain ⟨W1, hW1⟩ : ∃ W1, wr.putObj Wo.heap.size (.stringIter (s.extract 0 at_) (p + (Utf8.decode (s.extract 0 at_) p).2)) = W1 := ⟨_, rfl⟩
              rw [hW1] at hnx
              have hdv : (Utf8.decode (s.extract 0 at_) p).2 = v := by rw [hdh]; exact HV.out
              have hit1 : W1.heap[Wo.heap.size]? = some (.stringIter (s.extract 0 at_) (p + v)) := by rw [← hW1, ← hdv]; exact World.putObj_heap_same hltx
              have hb1 : Below w2.heap.size w2 W1 := by rw [← hW1]; exact hbx.trans (below_putObj HT.out.2.2.size _)
              have hc1 : (c : Int) ≤ 20001 := by omega
              have HP := Lib.hid (And.intro hst (And.intro hit (And.intro hit1 (And.intro hb1 (And.intro hnx2 hwd)))))
              clear hst hit hit1 hb1 hnx2 hwd hdh hdv hW1 hbx hm hltx hn hr hhz
              by_cases h10 : r = 10
              · subst h10
                go_wp2
                go_roundw
                case rel =>
                  obtain ⟨hst, hit, hit1, hb1, hnx2, hwd⟩ := HP.out
                  rw [if_pos rfl] at hst
                  exact ⟨m + 1, p + v, 1, l + 1, rfl, hst, hnx2, hb1, hit1⟩
                case measure =>
                  obtain ⟨hst, hit, hit1, hb1, hnx2, hwd⟩ := HP.out
                  rw [iterPos_eq hit1, iterPos_eq hit]; omega
              · have n10 : ((r : Int) == 10) = false := by simp; omega
                go_wp2
                go_roundw
                case rel =>
                  obtain ⟨hst, hit, hit1, hb1, hnx2, hwd⟩ := HP.out
                  rw [if_neg h10] at hst
                  exact ⟨m + 1, p + v, c + 1, l, rfl, hst, hnx2, hb1, hit1⟩
                case measure =>
                  obtain ⟨hst, hit, hit1, hb1, hnx2, hwd⟩ := HP.out
                  rw [iterPos_eq hit1, iterPos_eq hit]; omega
            · have hpe : p = at_ := by omega
              subst hpe
              have hnx : ∀ ty, (Instr.next (.pointer (some ⟨Wo.heap.size, 0, none⟩)) true ty).run Tryz.prog wr = .ok (.tuple #[.bool false]) wr := fun ty => run_next_str_end wr Wo.heap.size (s.extract 0 p) p ty hit (by omega)
              have hone := plN_one s (n := m) (m := n) (by rw [hm, HT.out.2.1])
              rw [hm, HT.out.2.1] at hone
              injection hone with q1 hone
              injection hone with q2 _
              subst q1
              subst q2
              have hln := plN_line s n
              rw [HT.out.2.1] at hln
              simp only at hln
              obtain ⟨d0, d1, d2, d3, d4⟩ := HC.out wr _ _ hbx HT.out.1
              skip
              have hnh : nlc (s.extract 0 p) (s.extract 0 p).size = nlc s p := by
                unfold nlc
                have h1 : (s.extract 0 p).data.toList = s.data.toList.take p := by simp
                rw [h1, hhz, List.take_take, Nat.min_self]
              have CEn := Lib.hid (fun V => ended_any (s.extract 0 p) V (by rw [hhz]; omega))
              rw [hnh] at CEn
              obtain ⟨K, hK⟩ : ∃ K, nlc s p = K := ⟨_, rfl⟩
              rw [hK] at CEn hln
              rw [hln] at d2
              have hKb : K ≤ p := by
                rw [← hK]
                unfold nlc
                exact Nat.le_trans List.count_le_length (by rw [List.length_take]; exact Nat.min_le_left _ _)
              have HD := Lib.hid (And.intro d0 (And.intro d1 (And.intro d2 (And.intro d3 (And.intro d4 (And.intro hbx hit))))))
              have hK2 : (K : Int) ≤ 20000 := by omega
              have hc20 : (c : Int) ≤ 20001 := by omega
              clear hnh hK hln hhz hm hit hltx hbx hpl
              have hix : ∀ X : World, (Instr.indexAt 23 (.slice (some ⟨g, 0, none⟩) N cap) (.int .i64 (i : Nat))).run Tryz.prog X = .ok (.pointer (some ⟨g, i * 5, none⟩)) X := fun X => by
                go_simp
                all_goals (intro h; exfalso; omega)
              have hf2 : ∀ X : World, (Instr.fieldAt 30 (.pointer (some ⟨g, i * 5, none⟩)) 2).run Tryz.prog X = .ok (.pointer (some ⟨g, i * 5 + 2, none⟩)) X := fun X => by go_simp
              have hf3 : ∀ X : World, (Instr.fieldAt 30 (.pointer (some ⟨g, i * 5, none⟩)) 3).run Tryz.prog X = .ok (.pointer (some ⟨g, i * 5 + 3, none⟩)) X := fun X => by go_simp
              have hl2 : ∀ X : World, Below wr.heap.size wr X → (Instr.loadAt 3 (.pointer (some ⟨g, i * 5 + 2, none⟩))).run Tryz.prog X = .ok (.int .i64 ((K : Int) + 1)) X := fun X hX => by
                have q : X.cell? ⟨g, i * 5 + 2, none⟩ = some (.int .i64 ((K : Int) + 1)) := (hX.cell (p := ⟨g, i * 5 + 2, none⟩) (Go.Kt.lt_of_cell d2)).trans d2
                go_simp
              have hl3 : ∀ X : World, Below wr.heap.size wr X → (Instr.loadAt 3 (.pointer (some ⟨g, i * 5 + 3, none⟩))).run Tryz.prog X = .ok (.int .i64 (c : Nat)) X := fun X hX => by
                have q : X.cell? ⟨g, i * 5 + 3, none⟩ = some (.int .i64 (c : Nat)) := (hX.cell (p := ⟨g, i * 5 + 3, none⟩) (Go.Kt.lt_of_cell d3)).trans d3
                go_simp
              have ha : ∀ X : World, (do eqGuard .add 3 (.tmp 75) (.const (.int .i64 1)) (.int .i64 (K : Nat)) (.int .i64 1); binOp .add 3 (.int .i64 (K : Nat)) (.int .i64 1) : Sem Value).run Tryz.prog X = .ok (.int .i64 ((K : Int) + 1)) X := fun X => by
                go_simp
                exact IntWalk.i64_in _ (by omega)
              have hn1 : ∀ X : World, (do eqGuard .neq 3 (.tmp 73) (.tmp 76) (.int .i64 ((K : Int) + 1)) (.int .i64 ((K : Int) + 1)); binOp .neq 3 (.int .i64 ((K : Int) + 1)) (.int .i64 ((K : Int) + 1)) : Sem Value).run Tryz.prog X = .ok (.bool false) X := fun X => by go_simp
              have hn2 : ∀ X : World, (do eqGuard .neq 3 (.tmp 83) (.tmp 84) (.int .i64 (c : Nat)) (.int .i64 (c : Nat)); binOp .neq 3 (.int .i64 (c : Nat)) (.int .i64 (c : Nat)) : Sem Value).run Tryz.prog X = .ok (.bool false) X := fun X => by go_simp
              go_wp2_with fail
              refine wp_region_guarded (fun X => Below wr.heap.size wr X) (fun U V => Below U.heap.size U V) (pP1 g N cap c K i (s.extract 0 p)) (by kernel_rfl) (by kernel_rfl) (by kernel_rfl) ?hS ?hp ?hs ?hd
              case hS => exact (Below.refl _ wr).drew
              case hp => exact fun i v U V _ _ _ hv => hv
              case hs =>
                refine GSteps.cons ?_ (GSteps.cons ?_ (GSteps.cons ?_ (GSteps.cons ?_ (GSteps.cons ?_ (GSteps.cons ?_ (GSteps.cons ?_ (GSteps.cons ?_ (GSteps.cons ?_ (GSteps.cons ?_ (GSteps.cons ?_ (GSteps.cons ?_ (GSteps.cons ?_ (GSteps.cons ?_ (GSteps.cons ?_ (GSteps.cons ?_ (GSteps.cons ?_ (GSteps.cons ?_ (GSteps.nil))))))))))))))))))
                · intro a X hX hL hd
                  refine .inl ⟨rfl, ?_⟩
                  have e0 : a.eval (.tmp 3) = .slice (some ⟨g, 0, none⟩) N cap := hL.far 3 (by kernel_rfl)
                  exact wp_value (exec_move rfl e0) ⟨_, rfl, hX, Below.refl _ _, rfl⟩
                · intro a X hX hL hd
                  refine .inl ⟨rfl, ?_⟩
                  have e0 : a.eval (.tmp 5) = .int .i64 (i : Nat) := hL.far 5 (by kernel_rfl)
                  exact wp_value (exec_move rfl e0) ⟨_, rfl, hX, Below.refl _ _, rfl⟩
                · intro a X hX hL hd
                  refine .inl ⟨rfl, ?_⟩
                  have e0 : a.eval (.tmp 69) = .slice (some ⟨g, 0, none⟩) N cap := hd 0 69 (by kernel_rfl) (by kernel_rfl)
                  have e1 : a.eval (.tmp 70) = .int .i64 (i : Nat) := hd 1 70 (by kernel_rfl) (by kernel_rfl)
                  exact wp_value (exec_indexAddr rfl e0 e1 (hix X)) ⟨_, rfl, hX, Below.refl _ _, rfl⟩
                · intro a X hX hL hd
                  refine .inl ⟨rfl, ?_⟩
                  have e0 : a.eval (.tmp 71) = .pointer (some ⟨g, i * 5, none⟩) := hd 2 71 (by kernel_rfl) (by kernel_rfl)
                  exact wp_value (exec_fieldAddr rfl e0 (hf2 X)) ⟨_, rfl, hX, Below.refl _ _, rfl⟩
                · intro a X hX hL hd
                  refine .inl ⟨rfl, ?_⟩
                  have e0 : a.eval (.tmp 72) = .pointer (some ⟨g, i * 5 + 2, none⟩) := hd 3 72 (by kernel_rfl) (by kernel_rfl)
                  exact wp_value (exec_load rfl e0 (hl2 X hX)) ⟨_, rfl, hX, Below.refl _ _, rfl⟩
                · intro a X hX hL hd
                  refine .inl ⟨rfl, ?_⟩
                  have e0 : a.eval (.tmp 7) = .string (s.extract 0 p) := hL.far 7 (by kernel_rfl)
                  exact wp_value (exec_move rfl e0) ⟨_, rfl, hX, Below.refl _ _, rfl⟩
                · intro a X hX hL hd
                  refine .inl ⟨rfl, ?_⟩
                  have e0 : a.eval (.tmp 74) = .string (s.extract 0 p) := hd 5 74 (by kernel_rfl) (by kernel_rfl)
                  refine wp_enter (exec_call (vs := #[.string (s.extract 0 p)]) rfl (by simp only [List.map_toArray, List.map_cons, List.map_nil, e0]) Tryz.func33 rfl rfl) ?_
                  refine (CEn.out X).mono ?_
                  rintro e X2 ⟨rfl, rfl⟩
                  exact ⟨_, rfl, _, rfl, hX, Below.refl _ _, rfl⟩
                · intro a X hX hL hd
                  refine .inl ⟨rfl, ?_⟩
                  have e0 : a.eval (.tmp 75) = .int .i64 (K : Nat) := hd 6 75 (by kernel_rfl) (by kernel_rfl)
                  exact wp_value (exec_binop rfl e0 rfl (ha X)) ⟨_, rfl, hX, Below.refl _ _, rfl⟩
                · intro a X hX hL hd
                  refine .inl ⟨rfl, ?_⟩
                  have e0 : a.eval (.tmp 73) = .int .i64 ((K : Int) + 1) := hd 4 73 (by kernel_rfl) (by kernel_rfl)
                  have e1 : a.eval (.tmp 76) = .int .i64 ((K : Int) + 1) := hd 7 76 (by kernel_rfl) (by kernel_rfl)
                  exact wp_value (exec_binop rfl e0 e1 (hn1 X)) ⟨_, rfl, hX, Below.refl _ _, rfl⟩
                · intro a X hX hL hd
                  refine .inl ⟨rfl, ?_⟩
                  have e0 : a.eval (.tmp 77) = .bool false := hd 8 77 (by kernel_rfl) (by kernel_rfl)
                  exact wp_value (exec_move rfl e0) ⟨_, rfl, hX, Below.refl _ _, rfl⟩
                · intro a X hX hL hd
                  refine .inl ⟨wanted_true 78 rfl (by kernel_rfl) (hd 9 78 (by kernel_rfl) (by kernel_rfl)), ?_⟩
                  have e0 : a.eval (.tmp 3) = .slice (some ⟨g, 0, none⟩) N cap := hL.far 3 (by kernel_rfl)
                  exact wp_value (exec_move rfl e0) ⟨_, rfl, hX, Below.refl _ _, rfl⟩
                · intro a X hX hL hd
                  refine .inl ⟨wanted_true 78 rfl (by kernel_rfl) (hd 9 78 (by kernel_rfl) (by kernel_rfl)), ?_⟩
                  have e0 : a.eval (.tmp 5) = .int .i64 (i : Nat) := hL.far 5 (by kernel_rfl)
                  exact wp_value (exec_move rfl e0) ⟨_, rfl, hX, Below.refl _ _, rfl⟩
                · intro a X hX hL hd
                  refine .inl ⟨wanted_true 78 rfl (by kernel_rfl) (hd 9 78 (by kernel_rfl) (by kernel_rfl)), ?_⟩
                  have e0 : a.eval (.tmp 79) = .slice (some ⟨g, 0, none⟩) N cap := hd 10 79 (by kernel_rfl) (by kernel_rfl)
                  have e1 : a.eval (.tmp 80) = .int .i64 (i : Nat) := hd 11 80 (by kernel_rfl) (by kernel_rfl)
                  exact wp_value (exec_indexAddr rfl e0 e1 (hix X)) ⟨_, rfl, hX, Below.refl _ _, rfl⟩
                · intro a X hX hL hd
                  refine .inl ⟨wanted_true 78 rfl (by kernel_rfl) (hd 9 78 (by kernel_rfl) (by kernel_rfl)), ?_⟩
                  have e0 : a.eval (.tmp 81) = .pointer (some ⟨g, i * 5, none⟩) := hd 12 81 (by kernel_rfl) (by kernel_rfl)
                  exact wp_value (exec_fieldAddr rfl e0 (hf3 X)) ⟨_, rfl, hX, Below.refl _ _, rfl⟩
                · intro a X hX hL hd
                  refine .inl ⟨wanted_true 78 rfl (by kernel_rfl) (hd 9 78 (by kernel_rfl) (by kernel_rfl)), ?_⟩
                  have e0 : a.eval (.tmp 82) = .pointer (some ⟨g, i * 5 + 3, none⟩) := hd 13 82 (by kernel_rfl) (by kernel_rfl)
                  exact wp_value (exec_load rfl e0 (hl3 X hX)) ⟨_, rfl, hX, Below.refl _ _, rfl⟩
                · intro a X hX hL hd
                  refine .inl ⟨wanted_true 78 rfl (by kernel_rfl) (hd 9 78 (by kernel_rfl) (by kernel_rfl)), ?_⟩
                  have e0 : a.eval (.tmp 8) = .int .i64 (c : Nat) := hL.far 8 (by kernel_rfl)
                  exact wp_value (exec_move rfl e0) ⟨_, rfl, hX, Below.refl _ _, rfl⟩
                · intro a X hX hL hd
                  refine .inl ⟨wanted_true 78 rfl (by kernel_rfl) (hd 9 78 (by kernel_rfl) (by kernel_rfl)), ?_⟩
                  have e0 : a.eval (.tmp 83) = .int .i64 (c : Nat) := hd 14 83 (by kernel_rfl) (by kernel_rfl)
                  have e1 : a.eval (.tmp 84) = .int .i64 (c : Nat) := hd 15 84 (by kernel_rfl) (by kernel_rfl)
                  exact wp_value (exec_binop rfl e0 e1 (hn2 X)) ⟨_, rfl, hX, Below.refl _ _, rfl⟩
                · intro a X hX hL hd
                  refine .inl ⟨rfl, ?_⟩
                  have e0 : a.eval (.tmp 78) = .bool false := hd 9 78 (by kernel_rfl) (by kernel_rfl)
                  have e1 : a.eval (.tmp 85) = .bool false := hd 16 85 (by kernel_rfl) (by kernel_rfl)
                  exact wp_value (exec_pick rfl e0 rfl e1) ⟨_, rfl, hX, Below.refl _ _, rfl⟩
              case hd =>
                intro a X hX hL hP _
                obtain ⟨f, ha2, hf⟩ := hL.out [69, 70, 71, 72, 73, 74, 75, 76, 77, 78, 79, 80, 81, 82, 83, 84, 85, 86] rfl
                have v86 : f 86 = .bool false := (hf 86).trans (hP 17 86 (by kernel_rfl))
                have HX := Lib.hid hX
                clear hX hL hP hf hix hf2 hf3 hl2 hl3 ha hn1 hn2 CEn
                simp only [List.foldl_cons, List.foldl_nil, List.setIfInBounds_toArray, List.set_cons_zero, List.set_cons_succ, v86] at ha2
                subst ha2
                have hbX : Below w2.heap.size w2 X := HD.out.2.2.2.2.2.1.trans (HX.out.mono HD.out.2.2.2.2.2.1.size)
                obtain ⟨x0, x1, x2, x3, x4⟩ := HC.out X _ _ hbX HT.out.1
                simp only at x0 x1
                simp only at x0 x1 x2 x3 x4
                obtain ⟨T, hT⟩ : ∃ T : ByteArray, (⟨tx.toArray⟩ : ByteArray) = T := ⟨_, rfl⟩
                have hTl : T.data.toList = tx := by rw [← hT]
                have hTz : T.size = tx.length := by rw [← hT]; exact size_mk _
                rw [hT] at x1
                have hsg := HK.out.1.sg _ (List.mem_of_getElem? HT.out.1)
                simp only at hsg
                have HBX := Lib.hid hbX
                have HII : Hid (i + 1 ≤ N) := Lib.hid (by omega)
                by_cases hk : kd = 2
                · obtain ⟨g1, g2⟩ := hsg hk
                  subst hk
                  have m1 : (p : Int) + (T.size : Int) ≤ s.size := by omega
                  have m2 : ¬ (s.size : Int) - (p : Int) < (T.size : Int) := by omega
                  have m4 : (s.size : Int) ≤ 20000 := by omega
                  have m7 : (p : Int) ≤ (p : Int) + (T.size : Int) := by omega
                  have m5 : IntKind.i64.wrap ((s.size : Int) - (p : Int)) = (s.size : Int) - (p : Int) := IntWalk.i64_in _ (by omega)
                  have m6 : IntKind.i64.wrap ((p : Int) + (T.size : Int)) = (p : Int) + (T.size : Int) := IntWalk.i64_in _ (by omega)
                  have hex : s.extract p (p + T.size) = T := by
                    apply ByteArray.ext
                    apply Array.toList_inj.1
                    rw [hTl, hTz]
                    exact g2
                  have m3 : ((p : Int) + (T.size : Int)).toNat = p + T.size := by omega
                  clear hsg hTl hTz hT g1 g2 hbX
                  go_wp2_with fail
                  go_quiet (fail)
                  go_wp2
                  go_roundw
                  case rel => exact ⟨i + 1, by simp, HII.out, below_drewN HBX.out _⟩
                  case measure => simp [RowKit.intOf]; have := HII.out; omega
                · have nk : (((kd : Nat) : Int) == 2) = false := by simp; omega
                  clear hsg hTl hTz hT hk hbX
                  go_wp2_with fail
                  go_quiet (fail)
                  go_wp2
                  go_roundw
                  case rel => exact ⟨i + 1, by simp, HII.out, below_drewN HBX.out _⟩
                  case measure => simp [RowKit.intOf]; have := HII.out; omega
      · have hie : i = N := by omega
        subst hie
        have hlt' : ¬ (i : Int) < i := by omega
        have hLn := HN.out
        obtain ⟨_, hLe, hpE⟩ := HK.out
        have hNp : i = L0.length + 1 := by rw [← hLn, hLe]; simp
        subst hNp
        have hgt : L[L0.length]? = some ⟨0, [], pE⟩ := by rw [hLe]; simp
        obtain ⟨c0, c1, c2, c3, c4⟩ := HC.out Wo L0.length _ hb hgt
        simp only at c0 c4
        rw [hpE] at c4
        have hwj : wrap64 (L0.length : Int) = L0.length := by
          have h1 := HN2.out
          unfold maxLen at h1
          unfold wrap64; omega
        have hbw := HB1.out.trans (hb.mono HB1.out.size)
        have HB := Lib.hid hbw
        clear c1 c2 c3 hLe hpE hgt hLn hb hlt hbw
        generalize L0.length = m at *
        have hm0 : (0 : Int) < (m : Int) + 1 := by omega
        have hm1 : (m : Int) < (m : Int) + 1 := by omega
        go_wp2_with (go_at_call 28; refine (CW.out _ HB.out).mono ?_; rintro e w4 ⟨rfl, hb4⟩)
        go_ret
        exact ⟨rfl, HB.out.trans (hb4.mono HB.out.size)⟩
end Go.Proofs.YtbnnhbmnddaafaaGreatDoor
