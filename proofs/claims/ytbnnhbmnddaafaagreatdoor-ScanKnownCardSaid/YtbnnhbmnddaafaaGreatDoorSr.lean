/- ScanQuote: the document's Quote, and the law. -/
import Derived.Test.YtbnnhbmnddaafaaGreatDoorSq
import Derived.Test.YtbnnhbmnddaafaaGreatDoorSt
import Derived.Test.YtbnnhbmnddaafaaGreatDoorSa
import Derived.Test.YtbnnhbmnddaafaaGreatDoorGz14
namespace Go.Proofs.YtbnnhbmnddaafaaGreatDoor
open Go Go.RowKit Go.Kt Go.Shelf Go.Lib
attribute [local go_sem] Oper.semAt_some

def flatQ (l : List Int) (i : Nat) : List UInt8 := (l.take i).flatMap qptV
theorem flatQ_succ {l : List Int} {i : Nat} {x : Int} (h : l[i]? = some x) : flatQ l (i + 1) = flatQ l i ++ qptV x := by
  unfold flatQ
  rw [List.take_add_one, h]
  simp
theorem flatQ_len (l : List Int) : ∀ i, (flatQ l i).length ≤ 7 * i
  | 0 => by simp [flatQ]
  | i + 1 => by
    cases h : l[i]? with
    | none =>
      have : flatQ l (i + 1) = flatQ l i := by unfold flatQ; rw [List.take_add_one, h]; simp
      rw [this]
      have := flatQ_len l i
      omega
    | some x =>
      rw [flatQ_succ h, List.length_append]
      have h1 := flatQ_len l i
      have h2 := qptV_len x
      omega

set_option maxHeartbeats 4000000 in
set_option maxRecDepth 100000 in
theorem refQuote_any (s : ByteArray) (w : World) (hs : s.size ≤ 1048576) :
    Calls Tryz.prog 32 #[.string s] w fun e w' => e = .returned (.string ⟨(quoV s).toArray⟩) ∧ Below w.heap.size w w' := by
  by_cases h0 : s.size = 0
  · have hs0 : s = ⟨#[]⟩ := by
      apply ByteArray.ext
      exact Array.eq_empty_of_size_eq_zero h0
    subst hs0
    clear hs h0
    go_enter Tryz.func32, Tryz.ntmps32
    go_wp2
    go_ret
    exact ⟨rfl, Below.refl _ _⟩
  have hne : s.toList.isEmpty = false := by
    rw [ByteArray.toList_eq, List.isEmpty_eq_false_iff]
    intro h
    apply h0
    rw [Lib.size_eq, h]; rfl
  have CO := Lib.hid (refOf_any s w (by omega) (by have := units_len s; omega))
  have hpt := pts_points s
  have hqv := quoV_pts s h0
  have hln : (pts s).length ≤ s.size := by rw [pts_len]; exact units_len s
  have hnn : (pts s).length ≠ 0 := by
    rw [pts_len]
    intro h
    have hu : units s = unitsF s s.size 0 := rfl
    obtain ⟨n, hn⟩ : ∃ n, s.size = n + 1 := ⟨s.size - 1, by omega⟩
    rw [hu, hn, unitsF, if_pos (by omega)] at h
    simp at h
  obtain ⟨l, hl⟩ : ∃ l, pts s = l := ⟨_, rfl⟩
  rw [hl] at CO hpt hqv hln hnn
  have hflat : quoV s = flatQ l l.length := by rw [hqv]; unfold flatQ; rw [List.take_length]
  have HF := Lib.hid hflat
  have HP := Lib.hid hpt
  clear hpt hqv hl hflat
  go_enter Tryz.func32, Tryz.ntmps32
  go_wp2_with fail
  refine CO.out.mono ?_
  rintro e w1 ⟨ao, cap, rfl, ho, hb1⟩
  obtain ⟨g, rfl⟩ : ∃ g, ao = some ⟨g, 0, none⟩ := by
    rcases ho.shape with ⟨_, h⟩ | ⟨g, c, h, _⟩
    · exact absurd h hnn
    · injection h with h _; exact ⟨g, h⟩
  have hgl : g < w1.heap.size := (ho.1.lt g rfl).2
  have HC : Hid (∀ (V : World) (i : Nat) (x : Int), Below w1.heap.size w1 V → l[i]? = some x → V.cell? ⟨g, i, none⟩ = some (.int .i32 x)) := Lib.hid fun V i x hV hx =>
    (hV.cell (p := ⟨g, i, none⟩) hgl).trans (ho.at0 (by simp [i32s, List.getElem?_map, hx]))
  obtain ⟨N, hN⟩ : ∃ N, l.length = N := ⟨_, rfl⟩
  rw [hN] at hln HF ⊢
  have HN := Lib.hid hN
  have HB1 := Lib.hid hb1
  have hN2 : (N : Int) ≤ 1048576 := by omega
  clear CO ho hb1 hgl hN hnn hln h0 hne
  go_wp2
  go_loopw [4, 6] (fun o v wr => ∃ (i k : Nat) (ao : Option Addr) (cp : Nat), v = .int .i64 i ∧ o = .slice ao k cp ∧ k = (flatQ l i).length ∧ i ≤ N ∧ OwnS (fun b => w1.heap.size ≤ b) 5 1 (.slice ao k cp) k (u8V (flatQ l i)) wr ∧ Below w1.heap.size w1 wr) (fun _ v _ => N - (RowKit.intOf v).toNat)
  case atStart => exact ⟨0, 0, none, 0, rfl, rfl, rfl, Nat.zero_le _, own_nil _ _ _ _, Below.refl _ _⟩
  case round =>
    obtain ⟨i, k, ao, cp, rfl, rfl, hk, hi, hown, hb⟩ := hrel
    obtain ⟨Wo, hWo⟩ : ∃ Wo, Wo = wr := ⟨_, rfl⟩
    subst hWo
    by_cases hlt : i < N
    · have hlt' : (i : Int) < N := by omega
      obtain ⟨x, hx⟩ : ∃ x, l[i]? = some x := ⟨_, List.getElem?_eq_getElem (by have := HN.out; omega)⟩
      have hxp := HP.out x (List.mem_of_getElem? hx)
      have hxb := (pointB_iff x).1 hxp
      have cx := HC.out Wo i x hb hx
      have hfl := flatQ_succ hx
      have hkb : k ≤ 7 * i := by rw [hk]; exact flatQ_len l i
      obtain ⟨acc, hacc⟩ : ∃ acc, flatQ l i = acc := ⟨_, rfl⟩
      rw [hacc] at hk hown hfl
      have HO := Lib.hid (And.intro hown (And.intro hb (And.intro hfl (And.intro hk (And.intro hkb hxp)))))
      clear hown hb hfl hk hkb hxp hx hacc
      by_cases ha : 1114112 ≤ x
      · have hb0 : 0 ≤ x := by omega
        have hb2 : x ≤ 1114367 := by omega
        obtain ⟨b, hbx⟩ : ∃ b : Nat, x % 256 = (b : Int) := ⟨(x % 256).toNat, by omega⟩
        have hb256 : b < 256 := by omega
        have hb16 : b / 16 < 16 := by omega
        have hbm : b % 16 < 16 := by omega
        have hqp : qptV x = [92, 120, hexD (b / 16), hexD (b % 16)] := by
          unfold qptV
          rw [if_pos ha, hbx, Int.toNat_natCast]
        have HQ := Lib.hid hqp
        clear hxb hqp
        go_wp2_with fail
        obtain ⟨hown, hb, hfl, hk, hkb, hxp⟩ := HO.out
        have hown1 : OwnS (fun y => (Value.slice ao k cp).ownBlock = some y) 5 1 (.slice ao k cp) k (u8V acc) Wo := hown.self
        have hkv : ∀ y, (Value.slice ao k cp).ownBlock = some y → y < Wo.heap.size := fun y h => (hown.1.lt y h).2
        obtain ⟨ti, hti, hz, hs1, hbt⟩ := info_parts tinfo5
        have HI := And.intro hti (And.intro hz (And.intro hs1 hbt))
        have HOC : ∀ u ∈ [Value.int .u8 92, .int .u8 120, .int .u8 ((hexD (b / 16)).toNat : Nat), .int .u8 ((hexD (b % 16)).toNat : Nat)], u.oneCell' = true := by intro u hu; simp at hu; rcases hu with rfl | rfl | rfl | rfl <;> rfl
        have HM1 : k + 4 ≤ maxLen := by unfold maxLen; omega
        have HM2 : (k + 4) * 1 ≤ 140737488355328 := by omega
        have BS : ∀ W : World, (Instr.buildSlice 35 4 #[(0, .int .u8 92), (1, .int .u8 120), (2, .int .u8 ((hexD (b / 16)).toNat : Nat)), (3, .int .u8 ((hexD (b % 16)).toNat : Nat))]).run Tryz.prog W = .ok (.slice (some ⟨W.heap.size, 0, none⟩) 4 4) (W.alloc (.cells #[.int .u8 92, .int .u8 120, .int .u8 ((hexD (b / 16)).toNat : Nat), .int .u8 ((hexD (b % 16)).toNat : Nat)] 5)) := fun W => by go_simp
        obtain ⟨FF, hFF⟩ : ∃ FF : AppR, FF = ⟨Wo, .slice ao k cp, 5, 1, k, k + 4, u8V acc, u8V acc ++ [.int .u8 92, .int .u8 120, .int .u8 ((hexD (b / 16)).toNat : Nat), .int .u8 ((hexD (b % 16)).toNat : Nat)], #[.int .u8 92, .int .u8 120, .int .u8 ((hexD (b / 16)).toNat : Nat), .int .u8 ((hexD (b % 16)).toNat : Nat)], 4, 9, 10, 11, fun z => match z with | 0 => some (.slice ao k cp) | 1 => some (.string ⟨#[48, 49, 50, 51, 52, 53, 54, 55, 56, 57, 97, 98, 99, 100, 101, 102]⟩) | 2 => some (.int .u8 (b : Nat)) | 3 => some (.int .u8 ((b / 16 : Nat) : Int)) | 4 => some (.int .u8 ((hexD (b / 16)).toNat : Nat)) | 5 => some (.string ⟨#[48, 49, 50, 51, 52, 53, 54, 55, 56, 57, 97, 98, 99, 100, 101, 102]⟩) | 6 => some (.int .u8 (b : Nat)) | 7 => some (.int .u8 ((b % 16 : Nat) : Int)) | 8 => some (.int .u8 ((hexD (b % 16)).toNat : Nat)) | _ => none⟩ := ⟨_, rfl⟩
        have H0 : AppR.S FF (fun _ => false) Wo.drew := by rw [hFF]; exact ⟨fun _ => hown1, (Keep.refl _ Wo).drew⟩
        refine wp_region_old (AppR.S FF) (AppR.P FF) (by kernel_rfl) (by kernel_rfl) (by kernel_rfl) H0 ?hs ?hd
        case hs =>
         rw [hFF]
         refine ESteps.cons ?_ (ESteps.cons ?_ (ESteps.cons ?_ (ESteps.cons ?_ (ESteps.cons ?_ (ESteps.cons ?_ (ESteps.cons ?_ (ESteps.cons ?_ (ESteps.cons ?_ (ESteps.cons ?_ (ESteps.cons ?_ (ESteps.cons ?_ (ESteps.nil))))))))))))
         · intro D2 a X hDi hDa _ hX hL hU hd
           refine ⟨rfl, ?_⟩
           have e0 : a.eval (.tmp 4) = .slice ao k cp := (hU 11 4 (hDa 11 (by kernel_rfl)) (by kernel_rfl)).trans (by kernel_rfl)
           exact wp_value (exec_move rfl e0) ⟨_, rfl, hX.more, fun _ _ _ h => h, AppR.P.mk rfl ⟨by simp, by simp, by simp⟩⟩
         · intro D2 a X hDi hDa _ hX hL hU hd
           refine ⟨rfl, ?_⟩
           have e0 : a.eval (.tmp 3) = .string ⟨#[48, 49, 50, 51, 52, 53, 54, 55, 56, 57, 97, 98, 99, 100, 101, 102]⟩ := hL.far 3 (by kernel_rfl)
           exact wp_value (exec_move rfl e0) ⟨_, rfl, hX.more, fun _ _ _ h => h, AppR.P.mk rfl ⟨by simp, by simp, by simp⟩⟩
         · intro D2 a X hDi hDa _ hX hL hU hd
           refine ⟨rfl, ?_⟩
           have e0 : a.eval (.tmp 8) = .int .u8 (b : Nat) := by rw [← hbx]; exact hL.far 8 (by kernel_rfl)
           exact wp_value (exec_move rfl e0) ⟨_, rfl, hX.more, fun _ _ _ h => h, AppR.P.mk rfl ⟨by simp, by simp, by simp⟩⟩
         · intro D2 a X hDi hDa _ hX hL hU hd
           refine ⟨rfl, ?_⟩
           have e0 : a.eval (.tmp 58) = .int .u8 (b : Nat) := (hd 2 58 (by kernel_rfl) (by kernel_rfl)).is rfl
           exact wp_value (exec_binop rfl e0 rfl (quo16 _ _ b hb256 X)) ⟨_, rfl, hX.more, fun _ _ _ h => h, AppR.P.mk rfl ⟨by simp, by simp, by simp⟩⟩
         · intro D2 a X hDi hDa _ hX hL hU hd
           refine ⟨rfl, ?_⟩
           have e0 : a.eval (.tmp 57) = .string ⟨#[48, 49, 50, 51, 52, 53, 54, 55, 56, 57, 97, 98, 99, 100, 101, 102]⟩ := (hd 1 57 (by kernel_rfl) (by kernel_rfl)).is rfl
           have e1 : a.eval (.tmp 59) = .int .u8 ((b / 16 : Nat) : Int) := (hd 3 59 (by kernel_rfl) (by kernel_rfl)).is rfl
           exact wp_value (exec_index rfl e0 e1 (digit8_ix _ hb16 X)) ⟨_, rfl, hX.more, fun _ _ _ h => h, AppR.P.mk rfl ⟨by simp, by simp, by simp⟩⟩
         · intro D2 a X hDi hDa _ hX hL hU hd
           refine ⟨rfl, ?_⟩
           have e0 : a.eval (.tmp 3) = .string ⟨#[48, 49, 50, 51, 52, 53, 54, 55, 56, 57, 97, 98, 99, 100, 101, 102]⟩ := hL.far 3 (by kernel_rfl)
           exact wp_value (exec_move rfl e0) ⟨_, rfl, hX.more, fun _ _ _ h => h, AppR.P.mk rfl ⟨by simp, by simp, by simp⟩⟩
         · intro D2 a X hDi hDa _ hX hL hU hd
           refine ⟨rfl, ?_⟩
           have e0 : a.eval (.tmp 8) = .int .u8 (b : Nat) := by rw [← hbx]; exact hL.far 8 (by kernel_rfl)
           exact wp_value (exec_move rfl e0) ⟨_, rfl, hX.more, fun _ _ _ h => h, AppR.P.mk rfl ⟨by simp, by simp, by simp⟩⟩
         · intro D2 a X hDi hDa _ hX hL hU hd
           refine ⟨rfl, ?_⟩
           have e0 : a.eval (.tmp 62) = .int .u8 (b : Nat) := (hd 6 62 (by kernel_rfl) (by kernel_rfl)).is rfl
           exact wp_value (exec_binop rfl e0 rfl (rem16 _ _ b hb256 X)) ⟨_, rfl, hX.more, fun _ _ _ h => h, AppR.P.mk rfl ⟨by simp, by simp, by simp⟩⟩
         · intro D2 a X hDi hDa _ hX hL hU hd
           refine ⟨rfl, ?_⟩
           have e0 : a.eval (.tmp 61) = .string ⟨#[48, 49, 50, 51, 52, 53, 54, 55, 56, 57, 97, 98, 99, 100, 101, 102]⟩ := (hd 5 61 (by kernel_rfl) (by kernel_rfl)).is rfl
           have e1 : a.eval (.tmp 63) = .int .u8 ((b % 16 : Nat) : Int) := (hd 7 63 (by kernel_rfl) (by kernel_rfl)).is rfl
           exact wp_value (exec_index rfl e0 e1 (digit8_ix _ hbm X)) ⟨_, rfl, hX.more, fun _ _ _ h => h, AppR.P.mk rfl ⟨by simp, by simp, by simp⟩⟩
         · intro D2 a X hDi hDa _ hX hL hU hd
           refine ⟨rfl, ?_⟩
           have e0 : a.eval (.tmp 60) = .int .u8 ((hexD (b / 16)).toNat : Nat) := (hd 4 60 (by kernel_rfl) (by kernel_rfl)).is rfl
           have e1 : a.eval (.tmp 64) = .int .u8 ((hexD (b % 16)).toNat : Nat) := (hd 8 64 (by kernel_rfl) (by kernel_rfl)).is rfl
           refine wp_value (exec_buildSlice rfl (ps := #[(0, .int .u8 92), (1, .int .u8 120), (2, .int .u8 ((hexD (b / 16)).toNat : Nat)), (3, .int .u8 ((hexD (b % 16)).toNat : Nat))]) (by simp only [List.map_toArray, List.map_cons, List.map_nil, e0, e1] <;> rfl) (BS X)) ⟨_, rfl, (hX.below ((Below.refl _ X).alloc (Nat.le_refl _) _)).more, fun _ _ _ h => h.below ((Below.refl _ X).alloc (Nat.le_refl _) _), AppR.P.bs_ rfl ⟨by simp, by simp⟩ ⟨X.heap.size, rfl, World.alloc_heap_new X _, hX.2.size⟩⟩
         · intro D2 a X hDi hDa _ hX hL hU hd
           refine ⟨rfl, ?_⟩
           have e0 : a.eval (.tmp 56) = .slice ao k cp := (hd 0 56 (by kernel_rfl) (by kernel_rfl)).is rfl
           obtain ⟨b2, hb1, hb2, hb3⟩ := (hd 9 65 (by kernel_rfl) (by kernel_rfl)).2.1 rfl
           have h11 := hDa 11 (by kernel_rfl)
           have hown := hX.1 hDi
           refine wp_append_lies X (.tmp 56) (.tmp 65) 35 rfl 0 5 ti (.int .u8 0) 1 1 Tryz.underlying35 HI.1 HI.2.1 HI.2.2.1 HI.2.2.2 rfl (by decide) (.slice ao k cp) k (u8V acc) e0 hown.1 ⟨b2, 0, none⟩ 4 4 [.int .u8 92, .int .u8 120, .int .u8 ((hexD (b / 16)).toNat : Nat), .int .u8 ((hexD (b % 16)).toNat : Nat)] hb1 rfl (World.news_of_block hb2) HOC (by decide) HM1 HM2 (Nat.zero_le _) _ rfl ?_
           intro g2 cap2 X2 hown2 hgrow hat hlt2
           exact ⟨_, rfl, hX.app (keep_grown hgrow), fun j u hj h => h.app hkv (keep_grown hgrow) (fun e => by subst e; rw [hDi] at hj; cases hj) (fun e => by subst e; rw [h11] at hj; cases hj), AppR.P.row (.inl rfl) rfl (by simp) ⟨_, _, rfl, hown2, fun y hy => by
            have : g2 = y := by simpa [Value.ownBlock] using hy
            subst this
            rcases hat with h | h
            · exact .inl h
            · exact .inr (by have := hX.2.size; simp only at this ⊢; omega)⟩⟩
         · intro D2 a X hDi hDa _ hX hL hU hd
           refine ⟨rfl, ?_⟩
           have hrow := (hd 10 66 (by kernel_rfl) (by kernel_rfl)).2.2 (.inl rfl)
           exact wp_value (exec_assign rfl rfl) ⟨_, rfl, hX.more, fun _ _ _ h => h, AppR.P.row (.inr rfl) rfl (by simp) hrow⟩
        case hd =>
          intro D2 a X hAll hX hL hP hE
          have hrow := (hP 11 4 (by kernel_rfl)).2.2 (.inr (by rw [hFF]))
          rw [hFF] at hrow hX
          obtain ⟨ao2, cp2, hv4, ho2⟩ := hrow
          have hK := hX.2
          obtain ⟨f, ha2, hf⟩ := hL.out [56, 57, 58, 59, 60, 61, 62, 63, 64, 65, 66, 4] rfl
          have v4 : f 4 = .slice ao2 (k + 4) cp2 := (hf 4).trans hv4
          have HX := Lib.hid (And.intro ho2 hK)
          clear hf hAll hX hL hP hE H0 hFF BS HM1 HM2 HOC HI hti hz hs1 hbt hkv hown1 hown hb hfl hk hkb hxp ho2 hK hv4
          simp only [List.foldl_cons, List.foldl_nil, List.setIfInBounds_toArray, List.set_cons_zero, List.set_cons_succ, v4] at ha2
          subst ha2
          go_wp2
          go_roundw
          case rel =>
            obtain ⟨hown, hb, hfl, hk, hkb, hxp⟩ := HO.out
            obtain ⟨ho2, hK⟩ := HX.out
            simp only at ho2 hK
            have e1 : u8V acc ++ [.int .u8 92, .int .u8 120, .int .u8 ((hexD (b / 16)).toNat : Nat), .int .u8 ((hexD (b % 16)).toNat : Nat)] = u8V (flatQ l (i + 1)) := by rw [hfl, HQ.out]; simp [u8V]
            rw [e1] at ho2
            exact ⟨i + 1, k + 4, ao2, cp2, rfl, rfl, by rw [hfl, HQ.out, hk]; simp, by omega, ho2.weaken (fun y hy => by
              rcases hy with h | h
              · exact hown.2 y h
              · have := hb.size; omega), hb.trans (hK.below hb.size (fun y h => hown.2 y h))⟩
          case measure => simp [RowKit.intOf]; omega
      have ha2 : x < 1114112 := by omega
      by_cases hc : x ≤ 32 ∨ x = 127
      · have hx0 : 0 ≤ x := by omega
        obtain ⟨d, hd⟩ : ∃ d : Nat, x.toNat / 16 = d := ⟨_, rfl⟩
        obtain ⟨m, hm⟩ : ∃ m : Nat, x.toNat % 16 = m := ⟨_, rfl⟩
        have hb16 : d < 16 := by omega
        have hbm : m < 16 := by omega
        have hxm : x % 256 = x := by omega
        have hw16 : IntKind.u8.wrap (x / 16) = (d : Int) := (IntWalk.u8_in _ (by omega)).trans (by omega)
        have htd : x.tdiv 16 = (d : Int) := by rw [Int.tdiv_eq_ediv_of_nonneg hx0]; omega
        have hwd : IntKind.u8.wrap (d : Int) = (d : Int) := IntWalk.u8_in _ (by omega)
        have hm16 : x.tmod 16 = (m : Int) := by rw [Int.tmod_eq_emod_of_nonneg hx0]; omega
        clear hxb
        by_cases hle : x ≤ 32
        · by_cases h16 : 16 ≤ x
          · skip
            obtain ⟨hown, hb, hfl, hk, hkb, hxp⟩ := HO.out
            have hqp : qptV x = [92, 117, 123] ++ [hexD d] ++ [hexD m, 125] := by
              unfold qptV
              rw [if_neg ha, if_pos hc, if_pos h16, hxm, hd, hm]
            obtain ⟨g1, c1, W1, r1, o1, b1⟩ := app_row hown hb [92, 117, 123] (by decide) (by simp; omega)
            obtain ⟨g2, c2, W2, r2, o2, b2⟩ := app_row o1 b1 [hexD d] (by simp) (by simp; omega)
            obtain ⟨g3, c3, W3, r3, o3, b3⟩ := app_row o2 b2 [hexD m, 125] (by simp) (by simp; omega)
            have R2 : ∀ ty, (Builtin.append_ #[35, 35] ty #[.slice (some ⟨g1, 0, none⟩) (k + 3) c1, .slice (some ⟨W1.heap.size, 0, none⟩) 1 1]).run Tryz.prog (W1.alloc (.cells #[.int .u8 ((hexD d).toNat : Nat)] 5)) = .ok (.slice (some ⟨g2, 0, none⟩) (k + 3 + 1) c2) W2 := r2
            have R3 : ∀ ty, (Builtin.append_ #[35, 35] ty #[.slice (some ⟨g2, 0, none⟩) (k + 3 + 1) c2, .slice (some ⟨W2.heap.size, 0, none⟩) 2 2]).run Tryz.prog (W2.alloc (.cells #[.int .u8 ((hexD m).toNat : Nat), .int .u8 125] 5)) = .ok (.slice (some ⟨g3, 0, none⟩) (k + 3 + 1 + 2) c3) W3 := r3
            have R1 : ∀ ty, (Builtin.append_ #[35, 35] ty #[.slice ao k cp, .slice (some ⟨Wo.heap.size, 0, none⟩) 3 3]).run Tryz.prog (Wo.alloc (.cells #[.int .u8 92, .int .u8 117, .int .u8 123] 5)) = .ok (.slice (some ⟨g1, 0, none⟩) (k + 3) c1) W1 := r1
            have HR1 := Lib.hid R1
            have HR2 := Lib.hid R2
            have HR3 := Lib.hid R3
            have HI1 := digit8_ix _ hb16
            have HI2 := digit8_ix _ hbm
            have HE := Lib.hid (And.intro o3 (And.intro b3 (And.intro hqp (And.intro hfl hk))))
            clear ha hc hd hm
            clear hown hb hfl hk hkb hxp hqp R1 R3 r1 r3 o1 b1 o3 b3 hb16 hbm R2 r2 o2 b2
            go_wp2_with (at_builtin; first | (refine wpList_append_eq rfl rfl rfl rfl HR1.out ?_; clear HR1) | (refine wpList_append_eq rfl rfl rfl rfl HR2.out ?_; clear HR2) | (refine wpList_append_eq rfl rfl rfl rfl HR3.out ?_; clear HR3))
            go_roundw
            case rel =>
              obtain ⟨o3, b3, hqp, hfl, hk⟩ := HE.out
              have e1 : acc ++ [92, 117, 123] ++ [hexD d] ++ [hexD m, 125] = flatQ l (i + 1) := by rw [hfl, hqp]; simp
              rw [e1] at o3
              exact ⟨i + 1, k + 3 + 1 + 2, some ⟨g3, 0, none⟩, c3, rfl, rfl, by rw [hfl, hqp, hk]; simp, by omega, o3, b3⟩
            case measure => simp [RowKit.intOf]; omega
          · skip
            obtain ⟨hown, hb, hfl, hk, hkb, hxp⟩ := HO.out
            have hqp : qptV x = [92, 117, 123] ++ [] ++ [hexD m, 125] := by
              unfold qptV
              rw [if_neg ha, if_pos hc, if_neg h16, hxm, hm]
            obtain ⟨g1, c1, W1, r1, o1, b1⟩ := app_row hown hb [92, 117, 123] (by decide) (by simp; omega)
            obtain ⟨g3, c3, W3, r3, o3, b3⟩ := app_row o1 b1 [hexD m, 125] (by simp) (by simp; omega)
            have R3 : ∀ ty, (Builtin.append_ #[35, 35] ty #[.slice (some ⟨g1, 0, none⟩) (k + 3) c1, .slice (some ⟨W1.heap.size, 0, none⟩) 2 2]).run Tryz.prog (W1.alloc (.cells #[.int .u8 ((hexD m).toNat : Nat), .int .u8 125] 5)) = .ok (.slice (some ⟨g3, 0, none⟩) (k + 3 + 2) c3) W3 := r3
            have R1 : ∀ ty, (Builtin.append_ #[35, 35] ty #[.slice ao k cp, .slice (some ⟨Wo.heap.size, 0, none⟩) 3 3]).run Tryz.prog (Wo.alloc (.cells #[.int .u8 92, .int .u8 117, .int .u8 123] 5)) = .ok (.slice (some ⟨g1, 0, none⟩) (k + 3) c1) W1 := r1
            have HR1 := Lib.hid R1
            have HR3 := Lib.hid R3
            have HI1 := digit8_ix _ hb16
            have HI2 := digit8_ix _ hbm
            have HE := Lib.hid (And.intro o3 (And.intro b3 (And.intro hqp (And.intro hfl hk))))
            clear ha hc hd hm
            clear hown hb hfl hk hkb hxp hqp R1 R3 r1 r3 o1 b1 o3 b3 hb16 hbm
            go_wp2_with (at_builtin; first | (refine wpList_append_eq rfl rfl rfl rfl HR1.out ?_; clear HR1) | (refine wpList_append_eq rfl rfl rfl rfl HR3.out ?_; clear HR3))
            go_roundw
            case rel =>
              obtain ⟨o3, b3, hqp, hfl, hk⟩ := HE.out
              have e1 : acc ++ [92, 117, 123] ++ [hexD m, 125] = flatQ l (i + 1) := by rw [hfl, hqp]; simp
              rw [e1] at o3
              exact ⟨i + 1, k + 3 + 2, some ⟨g3, 0, none⟩, c3, rfl, rfl, by rw [hfl, hqp, hk]; simp, by omega, o3, b3⟩
            case measure => simp [RowKit.intOf]; omega
        · have h16 : 16 ≤ x := by omega
          obtain rfl : x = 127 := by omega
          obtain rfl : d = 7 := by omega
          obtain rfl : m = 15 := by omega
          obtain ⟨hown, hb, hfl, hk, hkb, hxp⟩ := HO.out
          have hqp : qptV 127 = [92, 117, 123] ++ [hexD 7] ++ [hexD 15, 125] := by
            unfold qptV
            rw [if_neg ha, if_pos hc, if_pos h16, hxm, hd, hm]
          obtain ⟨g1, c1, W1, r1, o1, b1⟩ := app_row hown hb [92, 117, 123] (by decide) (by simp; omega)
          obtain ⟨g2, c2, W2, r2, o2, b2⟩ := app_row o1 b1 [hexD 7] (by simp) (by simp; omega)
          obtain ⟨g3, c3, W3, r3, o3, b3⟩ := app_row o2 b2 [hexD 15, 125] (by simp) (by simp; omega)
          have R2 : ∀ ty, (Builtin.append_ #[35, 35] ty #[.slice (some ⟨g1, 0, none⟩) (k + 3) c1, .slice (some ⟨W1.heap.size, 0, none⟩) 1 1]).run Tryz.prog (W1.alloc (.cells #[.int .u8 55] 5)) = .ok (.slice (some ⟨g2, 0, none⟩) (k + 3 + 1) c2) W2 := r2
          have R3 : ∀ ty, (Builtin.append_ #[35, 35] ty #[.slice (some ⟨g2, 0, none⟩) (k + 3 + 1) c2, .slice (some ⟨W2.heap.size, 0, none⟩) 2 2]).run Tryz.prog (W2.alloc (.cells #[.int .u8 102, .int .u8 125] 5)) = .ok (.slice (some ⟨g3, 0, none⟩) (k + 3 + 1 + 2) c3) W3 := r3
          have R1 : ∀ ty, (Builtin.append_ #[35, 35] ty #[.slice ao k cp, .slice (some ⟨Wo.heap.size, 0, none⟩) 3 3]).run Tryz.prog (Wo.alloc (.cells #[.int .u8 92, .int .u8 117, .int .u8 123] 5)) = .ok (.slice (some ⟨g1, 0, none⟩) (k + 3) c1) W1 := r1
          have HR1 := Lib.hid R1
          have HR2 := Lib.hid R2
          have HR3 := Lib.hid R3
          have HE := Lib.hid (And.intro o3 (And.intro b3 (And.intro hqp (And.intro hfl hk))))
          clear ha hc hd hm hxm hw16 htd hwd hm16 hle ha2 hx0 h16
          clear hown hb hfl hk hkb hxp hqp R1 R3 r1 r3 o1 b1 o3 b3 hb16 hbm R2 r2 o2 b2
          go_wp2_with (at_builtin; first | (refine wpList_append_eq rfl rfl rfl rfl HR1.out ?_; clear HR1) | (refine wpList_append_eq rfl rfl rfl rfl HR2.out ?_; clear HR2) | (refine wpList_append_eq rfl rfl rfl rfl HR3.out ?_; clear HR3))
          go_roundw
          case rel =>
            obtain ⟨o3, b3, hqp, hfl, hk⟩ := HE.out
            have e1 : acc ++ [92, 117, 123] ++ [hexD 7] ++ [hexD 15, 125] = flatQ l (i + 1) := by rw [hfl, hqp]; simp
            rw [e1] at o3
            exact ⟨i + 1, k + 3 + 1 + 2, some ⟨g3, 0, none⟩, c3, rfl, rfl, by rw [hfl, hqp, hk]; simp, by omega, o3, b3⟩
          case measure => simp [RowKit.intOf]; omega
      by_cases hlo : x < 128
      · by_cases hsg : isSgs x = true
        · skip
          obtain ⟨hown, hb, hfl, hk, hkb, hxp⟩ := HO.out
          have hqp : qptV x = [92] ++ bytesP x := by unfold qptV; rw [if_neg ha, if_neg hc, if_pos ⟨hlo, hsg⟩]
          obtain ⟨g1, c1, W1, r1, o1, b1⟩ := app_row hown hb [92] (by decide) (by simp; omega)
          have R1 : ∀ ty, (Builtin.append_ #[35, 35] ty #[.slice ao k cp, .slice (some ⟨Wo.heap.size, 0, none⟩) 1 1]).run Tryz.prog (Wo.alloc (.cells #[.int .u8 92] 5)) = .ok (.slice (some ⟨g1, 0, none⟩) (k + 1) c1) W1 := r1
          have HR1 := Lib.hid R1
          have ho1 : OwnS (fun b => w1.heap.size ≤ b) 5 1 (.slice (some ⟨g1, 0, none⟩) (k + 1) c1) (k + 1) (u8V (acc ++ [92])) W1 := o1
          have CSg : Hid (∀ V, Calls Tryz.prog 57 #[.int .u8 x] V fun e w' => e = .returned (.bool true) ∧ V = w') := Lib.hid fun V => by have h := xSigns_any x V; rw [show isSgs x = true from hsg] at h; exact h
          have hxm : x % 256 = x := by omega
          have hx33 : 32 < x := by omega
          have hx127 : (x == 127) = false := by simp; omega
          have hw32 : IntKind.i32.wrap x = x := IntWalk.i32_in _ (by omega)
          have CBy := Lib.hid (fun V => refBytes_any x V hxp)
          obtain ⟨pt, hpt⟩ : ∃ pt, bytesP x = pt := ⟨_, rfl⟩
          have hptl := bytesP_len x
          rw [hpt] at CBy hqp hptl
          obtain ⟨n, hn⟩ : ∃ n, pt.length = n := ⟨_, rfl⟩
          have HE := Lib.hid (And.intro ho1 (And.intro b1 (And.intro hqp (And.intro hfl (And.intro hk (And.intro hkb (And.intro hptl hn)))))))
          clear ha hc hown hb hfl hk hkb hxp hqp ho1 b1 hpt hptl hn hxb R1 r1 o1 hsg
          go_wp2_with (first | (go_at_call 57; refine (CSg.out _).mono ?_; rintro e w5 ⟨rfl, rfl⟩) | (at_builtin; refine wpList_append_eq rfl rfl rfl rfl HR1.out ?_; clear HR1))
          refine (CBy.out _).mono ?_
          rintro e w6 ⟨rfl, hw6⟩
          obtain ⟨ho1, b1, hqp, hfl, hk, hkb, hptl, hn⟩ := HE.out
          rw [hn]
          obtain ⟨PB, hPB⟩ : ∃ PB, W1.heap.size = PB := ⟨_, rfl⟩
          rw [hPB]
          have hbl : w6.heap[PB]? = some (.cells (u8V pt).toArray 5 (0, 0)) := by rw [hw6, ← hPB]; exact World.alloc_heap_new W1 _
          have hb6 : Below W1.heap.size W1 w6 := by rw [hw6]; exact (Below.refl _ W1).alloc (Nat.le_refl _) _
          have hz6 : w6.heap.size = PB + 1 := by rw [hw6, ← hPB]; simp
          have ho6 : OwnS (fun y => w1.heap.size ≤ y ∧ y ≠ PB) 5 1 (.slice (some ⟨g1, 0, none⟩) (k + 1) c1) (k + 1) (u8V (acc ++ [92])) w6 := by
            have h1 := ho1.keep (X := fun _ => False) (Keep.of_all hb6) (fun _ h => h.elim)
            exact ⟨h1.1, fun y hy => ⟨h1.2 y hy, by have := (ho1.1.lt y hy).2; omega⟩⟩
          have hbw6 : Below w1.heap.size w1 w6 := b1.trans (hb6.mono b1.size)
          have HL := Lib.hid (And.intro hbl (And.intro hz6 (And.intro ho6 hbw6)))
          have hn4 : (n : Int) ≤ 4 := by omega
          have hkk : (k + 1 : Int) ≤ 7340040 := by omega
          clear ho1 b1 hqp hfl hk hkb hptl hn hbl hb6 hz6 ho6 hbw6 hw6 hPB
          go_wp2
          go_loopw [4, 10] (fun o v wr => ∃ (q z : Nat) (ao2 : Option Addr) (cp2 : Nat), v = .int .i64 q ∧ o = .slice ao2 z cp2 ∧ z = k + 1 + q ∧ q ≤ n ∧ OwnS (fun y => w1.heap.size ≤ y ∧ y ≠ PB) 5 1 (.slice ao2 z cp2) z (u8V ((acc ++ [92]) ++ pt.take q)) wr ∧ Keep (fun y => w1.heap.size ≤ y ∧ y ≠ PB) w6 wr) (fun _ v _ => n - (RowKit.intOf v).toNat)
          case atStart => exact ⟨0, k + 1, _, _, rfl, rfl, rfl, Nat.zero_le _, by simpa using HL.out.2.2.1, Keep.refl _ _⟩
          case round =>
            obtain ⟨q, z, ao2, cp2, rfl, rfl, hz, hq, hoq, hkq⟩ := hrel
            obtain ⟨hbl, hz6, ho6, hbw6⟩ := HL.out
            obtain ⟨ho1, b1, hqp, hfl, hk, hkb, hptl, hn⟩ := HE.out
            by_cases hqn : q < n
            · have hqn' : (q : Int) < n := by omega
              obtain ⟨u, hu⟩ : ∃ u, pt[q]? = some u := ⟨_, List.getElem?_eq_getElem (by omega)⟩
              have hcl : wr.cell? ⟨PB, q, none⟩ = some (.int .u8 (u.toNat : Nat)) := by
                have h1 : wr.heap[PB]? = some (.cells (u8V pt).toArray 5 (0, 0)) := hkq.heap hbl (fun h => h.2 rfl)
                rw [Lib.cell_of_heap h1]
                simp [u8V, hu]
              have hzz := hkq.size
              obtain ⟨g5, c5, W5, r5, o5, k5⟩ := app_rowY hoq (fun y hy => ⟨by have := hbw6.size; omega, by omega⟩) [u] (by simp) (by simp; omega)
              have R5 : ∀ ty, (Builtin.append_ #[35, 35] ty #[.slice ao2 z cp2, .slice (some ⟨wr.heap.size, 0, none⟩) 1 1]).run Tryz.prog (wr.alloc (.cells #[.int .u8 (u.toNat : Nat)] 5)) = .ok (.slice (some ⟨g5, 0, none⟩) (z + 1) c5) W5 := r5
              have HR5 := Lib.hid R5
              have etk : (acc ++ [92]) ++ pt.take q ++ [u] = (acc ++ [92]) ++ pt.take (q + 1) := by rw [List.take_add_one, hu]; simp
              rw [etk] at o5
              have HM := Lib.hid (And.intro o5 (And.intro (hkq.trans k5) hz))
              clear hbl hz6 ho6 hbw6 ho1 b1 hqp hfl hk hkb hptl hn hu hzz r5 o5 k5 R5 hoq hkq etk hz
              go_wp2_with (at_builtin; refine wpList_append_eq rfl rfl rfl rfl HR5.out ?_; clear HR5)
              go_roundw
              case rel => exact ⟨q + 1, z + 1, some ⟨g5, 0, none⟩, c5, rfl, rfl, by have := HM.out.2.2; omega, by omega, HM.out.1, HM.out.2.1⟩
              case measure => simp [RowKit.intOf]; omega
            · have hqe : q = n := by omega
              subst hqe
              have hnl : ¬ (q : Int) < q := by omega
              have etk : (acc ++ [92]) ++ pt.take q = flatQ l (i + 1) := by rw [List.take_of_length_le (by omega), hfl, hqp]; simp
              rw [etk] at hoq
              have hzl : z = (flatQ l (i + 1)).length := by rw [← etk, List.length_append, List.length_take, hz, List.length_append, hk, hn]; simp
              have HM := Lib.hid (And.intro (hoq.weaken (Z := fun b => w1.heap.size ≤ b) fun y h => h.1) (And.intro hzl (hbw6.trans (hkq.below hbw6.size fun y h => h.1))))
              clear hbl hz6 ho6 hbw6 ho1 b1 hqp hfl hk hkb hptl hn hoq hkq etk hz hzl
              go_wp2
              go_roundw
              case rel => exact ⟨i + 1, z, ao2, cp2, rfl, rfl, HM.out.2.1, by omega, HM.out.1, HM.out.2.2⟩
              case measure => simp [RowKit.intOf]; omega
        · skip
          obtain ⟨hown, hb, hfl, hk, hkb, hxp⟩ := HO.out
          have hqp : qptV x = [] ++ bytesP x := by unfold qptV; rw [if_neg ha, if_neg hc, if_neg (fun h => hsg h.2)]
          have ho1 := hown
          have b1 := hb
          have CSg : Hid (∀ V, Calls Tryz.prog 57 #[.int .u8 x] V fun e w' => e = .returned (.bool false) ∧ V = w') := Lib.hid fun V => by have h := xSigns_any x V; rw [show isSgs x = false from by simpa using hsg] at h; exact h
          have hxm : x % 256 = x := by omega
          have hx33 : 32 < x := by omega
          have hx127 : (x == 127) = false := by simp; omega
          have hw32 : IntKind.i32.wrap x = x := IntWalk.i32_in _ (by omega)
          have CBy := Lib.hid (fun V => refBytes_any x V hxp)
          obtain ⟨pt, hpt⟩ : ∃ pt, bytesP x = pt := ⟨_, rfl⟩
          have hptl := bytesP_len x
          rw [hpt] at CBy hqp hptl
          obtain ⟨n, hn⟩ : ∃ n, pt.length = n := ⟨_, rfl⟩
          have HE := Lib.hid (And.intro ho1 (And.intro b1 (And.intro hqp (And.intro hfl (And.intro hk (And.intro hkb (And.intro hptl hn)))))))
          clear ha hc hown hb hfl hk hkb hxp hqp ho1 b1 hpt hptl hn hxb hsg
          go_wp2_with (go_at_call 57; refine (CSg.out _).mono ?_; rintro e w5 ⟨rfl, rfl⟩)
          refine (CBy.out _).mono ?_
          rintro e w6 ⟨rfl, hw6⟩
          obtain ⟨ho1, b1, hqp, hfl, hk, hkb, hptl, hn⟩ := HE.out
          rw [hn]
          obtain ⟨PB, hPB⟩ : ∃ PB, Wo.heap.size = PB := ⟨_, rfl⟩
          rw [hPB]
          have hbl : w6.heap[PB]? = some (.cells (u8V pt).toArray 5 (0, 0)) := by rw [hw6, ← hPB]; exact World.alloc_heap_new Wo _
          have hb6 : Below Wo.heap.size Wo w6 := by rw [hw6]; exact (Below.refl _ Wo).alloc (Nat.le_refl _) _
          have hz6 : w6.heap.size = PB + 1 := by rw [hw6, ← hPB]; simp
          have ho6 : OwnS (fun y => w1.heap.size ≤ y ∧ y ≠ PB) 5 1 (.slice ao k cp) (k) (u8V acc) w6 := by
            have h1 := ho1.keep (X := fun _ => False) (Keep.of_all hb6) (fun _ h => h.elim)
            exact ⟨h1.1, fun y hy => ⟨h1.2 y hy, by have := (ho1.1.lt y hy).2; omega⟩⟩
          have hbw6 : Below w1.heap.size w1 w6 := b1.trans (hb6.mono b1.size)
          have HL := Lib.hid (And.intro hbl (And.intro hz6 (And.intro ho6 hbw6)))
          have hn4 : (n : Int) ≤ 4 := by omega
          have hkk : (k : Int) ≤ 7340040 := by omega
          clear ho1 b1 hqp hfl hk hkb hptl hn hbl hb6 hz6 ho6 hbw6 hw6 hPB
          go_wp2
          go_loopw [4, 10] (fun o v wr => ∃ (q z : Nat) (ao2 : Option Addr) (cp2 : Nat), v = .int .i64 q ∧ o = .slice ao2 z cp2 ∧ z = k + q ∧ q ≤ n ∧ OwnS (fun y => w1.heap.size ≤ y ∧ y ≠ PB) 5 1 (.slice ao2 z cp2) z (u8V (acc ++ pt.take q)) wr ∧ Keep (fun y => w1.heap.size ≤ y ∧ y ≠ PB) w6 wr) (fun _ v _ => n - (RowKit.intOf v).toNat)
          case atStart => exact ⟨0, k, _, _, rfl, rfl, rfl, Nat.zero_le _, by simpa using HL.out.2.2.1, Keep.refl _ _⟩
          case round =>
            obtain ⟨q, z, ao2, cp2, rfl, rfl, hz, hq, hoq, hkq⟩ := hrel
            obtain ⟨hbl, hz6, ho6, hbw6⟩ := HL.out
            obtain ⟨ho1, b1, hqp, hfl, hk, hkb, hptl, hn⟩ := HE.out
            by_cases hqn : q < n
            · have hqn' : (q : Int) < n := by omega
              obtain ⟨u, hu⟩ : ∃ u, pt[q]? = some u := ⟨_, List.getElem?_eq_getElem (by omega)⟩
              have hcl : wr.cell? ⟨PB, q, none⟩ = some (.int .u8 (u.toNat : Nat)) := by
                have h1 : wr.heap[PB]? = some (.cells (u8V pt).toArray 5 (0, 0)) := hkq.heap hbl (fun h => h.2 rfl)
                rw [Lib.cell_of_heap h1]
                simp [u8V, hu]
              have hzz := hkq.size
              obtain ⟨g5, c5, W5, r5, o5, k5⟩ := app_rowY hoq (fun y hy => ⟨by have := hbw6.size; omega, by omega⟩) [u] (by simp) (by simp; omega)
              have R5 : ∀ ty, (Builtin.append_ #[35, 35] ty #[.slice ao2 z cp2, .slice (some ⟨wr.heap.size, 0, none⟩) 1 1]).run Tryz.prog (wr.alloc (.cells #[.int .u8 (u.toNat : Nat)] 5)) = .ok (.slice (some ⟨g5, 0, none⟩) (z + 1) c5) W5 := r5
              have HR5 := Lib.hid R5
              have etk : acc ++ pt.take q ++ [u] = acc ++ pt.take (q + 1) := by rw [List.take_add_one, hu]; simp
              rw [etk] at o5
              have HM := Lib.hid (And.intro o5 (And.intro (hkq.trans k5) hz))
              clear hbl hz6 ho6 hbw6 ho1 b1 hqp hfl hk hkb hptl hn hu hzz r5 o5 k5 R5 hoq hkq etk hz
              go_wp2_with (at_builtin; refine wpList_append_eq rfl rfl rfl rfl HR5.out ?_; clear HR5)
              go_roundw
              case rel => exact ⟨q + 1, z + 1, some ⟨g5, 0, none⟩, c5, rfl, rfl, by have := HM.out.2.2; omega, by omega, HM.out.1, HM.out.2.1⟩
              case measure => simp [RowKit.intOf]; omega
            · have hqe : q = n := by omega
              subst hqe
              have hnl : ¬ (q : Int) < q := by omega
              have etk : acc ++ pt.take q = flatQ l (i + 1) := by rw [List.take_of_length_le (by omega), hfl, hqp]; simp
              rw [etk] at hoq
              have hzl : z = (flatQ l (i + 1)).length := by rw [← etk, List.length_append, List.length_take, hz, hk, hn]; simp
              have HM := Lib.hid (And.intro (hoq.weaken (Z := fun b => w1.heap.size ≤ b) fun y h => h.1) (And.intro hzl (hbw6.trans (hkq.below hbw6.size fun y h => h.1))))
              clear hbl hz6 ho6 hbw6 ho1 b1 hqp hfl hk hkb hptl hn hoq hkq etk hz hzl
              go_wp2
              go_roundw
              case rel => exact ⟨i + 1, z, ao2, cp2, rfl, rfl, HM.out.2.1, by omega, HM.out.1, HM.out.2.2⟩
              case measure => simp [RowKit.intOf]; omega
      · skip
        obtain ⟨hown, hb, hfl, hk, hkb, hxp⟩ := HO.out
        have hqp : qptV x = [] ++ bytesP x := by unfold qptV; rw [if_neg ha, if_neg hc, if_neg (fun h => hlo h.1)]
        have ho1 := hown
        have b1 := hb
        have hx33 : 32 < x := by omega
        have hx127 : (x == 127) = false := by simp; omega
        have hw32 : IntKind.i32.wrap x = x := IntWalk.i32_in _ (by omega)
        have CBy := Lib.hid (fun V => refBytes_any x V hxp)
        obtain ⟨pt, hpt⟩ : ∃ pt, bytesP x = pt := ⟨_, rfl⟩
        have hptl := bytesP_len x
        rw [hpt] at CBy hqp hptl
        obtain ⟨n, hn⟩ : ∃ n, pt.length = n := ⟨_, rfl⟩
        have HE := Lib.hid (And.intro ho1 (And.intro b1 (And.intro hqp (And.intro hfl (And.intro hk (And.intro hkb (And.intro hptl hn)))))))
        clear ha hc hown hb hfl hk hkb hxp hqp ho1 b1 hpt hptl hn hxb
        go_wp2_with fail
        refine (CBy.out _).mono ?_
        rintro e w6 ⟨rfl, hw6⟩
        obtain ⟨ho1, b1, hqp, hfl, hk, hkb, hptl, hn⟩ := HE.out
        rw [hn]
        obtain ⟨PB, hPB⟩ : ∃ PB, Wo.heap.size = PB := ⟨_, rfl⟩
        rw [hPB]
        have hbl : w6.heap[PB]? = some (.cells (u8V pt).toArray 5 (0, 0)) := by rw [hw6, ← hPB]; exact World.alloc_heap_new Wo _
        have hb6 : Below Wo.heap.size Wo w6 := by rw [hw6]; exact (Below.refl _ Wo).alloc (Nat.le_refl _) _
        have hz6 : w6.heap.size = PB + 1 := by rw [hw6, ← hPB]; simp
        have ho6 : OwnS (fun y => w1.heap.size ≤ y ∧ y ≠ PB) 5 1 (.slice ao k cp) (k) (u8V acc) w6 := by
          have h1 := ho1.keep (X := fun _ => False) (Keep.of_all hb6) (fun _ h => h.elim)
          exact ⟨h1.1, fun y hy => ⟨h1.2 y hy, by have := (ho1.1.lt y hy).2; omega⟩⟩
        have hbw6 : Below w1.heap.size w1 w6 := b1.trans (hb6.mono b1.size)
        have HL := Lib.hid (And.intro hbl (And.intro hz6 (And.intro ho6 hbw6)))
        have hn4 : (n : Int) ≤ 4 := by omega
        have hkk : (k : Int) ≤ 7340040 := by omega
        clear ho1 b1 hqp hfl hk hkb hptl hn hbl hb6 hz6 ho6 hbw6 hw6 hPB
        go_wp2
        go_loopw [4, 10] (fun o v wr => ∃ (q z : Nat) (ao2 : Option Addr) (cp2 : Nat), v = .int .i64 q ∧ o = .slice ao2 z cp2 ∧ z = k + q ∧ q ≤ n ∧ OwnS (fun y => w1.heap.size ≤ y ∧ y ≠ PB) 5 1 (.slice ao2 z cp2) z (u8V (acc ++ pt.take q)) wr ∧ Keep (fun y => w1.heap.size ≤ y ∧ y ≠ PB) w6 wr) (fun _ v _ => n - (RowKit.intOf v).toNat)
        case atStart => exact ⟨0, k, _, _, rfl, rfl, rfl, Nat.zero_le _, by simpa using HL.out.2.2.1, Keep.refl _ _⟩
        case round =>
          obtain ⟨q, z, ao2, cp2, rfl, rfl, hz, hq, hoq, hkq⟩ := hrel
          obtain ⟨hbl, hz6, ho6, hbw6⟩ := HL.out
          obtain ⟨ho1, b1, hqp, hfl, hk, hkb, hptl, hn⟩ := HE.out
          by_cases hqn : q < n
          · have hqn' : (q : Int) < n := by omega
            obtain ⟨u, hu⟩ : ∃ u, pt[q]? = some u := ⟨_, List.getElem?_eq_getElem (by omega)⟩
            have hcl : wr.cell? ⟨PB, q, none⟩ = some (.int .u8 (u.toNat : Nat)) := by
              have h1 : wr.heap[PB]? = some (.cells (u8V pt).toArray 5 (0, 0)) := hkq.heap hbl (fun h => h.2 rfl)
              rw [Lib.cell_of_heap h1]
              simp [u8V, hu]
            have hzz := hkq.size
            obtain ⟨g5, c5, W5, r5, o5, k5⟩ := app_rowY hoq (fun y hy => ⟨by have := hbw6.size; omega, by omega⟩) [u] (by simp) (by simp; omega)
            have R5 : ∀ ty, (Builtin.append_ #[35, 35] ty #[.slice ao2 z cp2, .slice (some ⟨wr.heap.size, 0, none⟩) 1 1]).run Tryz.prog (wr.alloc (.cells #[.int .u8 (u.toNat : Nat)] 5)) = .ok (.slice (some ⟨g5, 0, none⟩) (z + 1) c5) W5 := r5
            have HR5 := Lib.hid R5
            have etk : acc ++ pt.take q ++ [u] = acc ++ pt.take (q + 1) := by rw [List.take_add_one, hu]; simp
            rw [etk] at o5
            have HM := Lib.hid (And.intro o5 (And.intro (hkq.trans k5) hz))
            clear hbl hz6 ho6 hbw6 ho1 b1 hqp hfl hk hkb hptl hn hu hzz r5 o5 k5 R5 hoq hkq etk hz
            go_wp2_with (at_builtin; refine wpList_append_eq rfl rfl rfl rfl HR5.out ?_; clear HR5)
            go_roundw
            case rel => exact ⟨q + 1, z + 1, some ⟨g5, 0, none⟩, c5, rfl, rfl, by have := HM.out.2.2; omega, by omega, HM.out.1, HM.out.2.1⟩
            case measure => simp [RowKit.intOf]; omega
          · have hqe : q = n := by omega
            subst hqe
            have hnl : ¬ (q : Int) < q := by omega
            have etk : acc ++ pt.take q = flatQ l (i + 1) := by rw [List.take_of_length_le (by omega), hfl, hqp]; simp
            rw [etk] at hoq
            have hzl : z = (flatQ l (i + 1)).length := by rw [← etk, List.length_append, List.length_take, hz, hk, hn]; simp
            have HM := Lib.hid (And.intro (hoq.weaken (Z := fun b => w1.heap.size ≤ b) fun y h => h.1) (And.intro hzl (hbw6.trans (hkq.below hbw6.size fun y h => h.1))))
            clear hbl hz6 ho6 hbw6 ho1 b1 hqp hfl hk hkb hptl hn hoq hkq etk hz hzl
            go_wp2
            go_roundw
            case rel => exact ⟨i + 1, z, ao2, cp2, rfl, rfl, HM.out.2.1, by omega, HM.out.1, HM.out.2.2⟩
            case measure => simp [RowKit.intOf]; omega
    · have hie : i = N := by omega
      subst hie
      have hnl : ¬ (i : Int) < i := by omega
      have hcv := conv_own (by rw [hk] at hown; exact hown : OwnS (fun b => w1.heap.size ≤ b) 5 1 (.slice ao (flatQ l i).length cp) (flatQ l i).length (u8V (flatQ l i)) Wo)
      rw [← hk] at hcv
      have hfin := HF.out
      rw [← hfin] at hcv
      have HB2 := Lib.hid (HB1.out.trans (hb.mono HB1.out.size))
      clear hown hb hk hfin
      go_wp2
      go_ret
      exact ⟨rfl, HB2.out⟩

set_option maxRecDepth 100000 in
theorem scanQuote_c (s : ByteArray) (w : World) (hE : SEnv w) (hB : BTab w) (hl : 6 < w.heap.size) (hs : s.size ≤ 1048576) :
    Calls Tryz.prog 12 #[.string s] w fun e w' => e = .returned (.bool true) ∧ Below w.heap.size w w' := by
  have CQ := Lib.hid (quote_any s w hE hB hl (by omega))
  have CR := Lib.hid (fun V => refQuote_any s V hs)
  have CW := Lib.hid (fun V (h : Below w.heap.size w V) => works_any5 V (hE.below h))
  obtain ⟨Q, hQ⟩ : ∃ Q : ByteArray, (⟨(quoV s).toArray⟩ : ByteArray) = Q := ⟨_, rfl⟩
  rw [hQ] at CQ CR
  clear hE hB hl hQ
  go_enter Tryz.func12, Tryz.ntmps12
  go_wp2_with fail
  refine CQ.out.mono ?_
  rintro e w1 ⟨rfl, hb1⟩
  have HB1 := Lib.hid hb1
  clear hb1
  go_wp2_with fail
  refine (CR.out _).mono ?_
  rintro e w2 ⟨rfl, hb2⟩
  have HB2 := Lib.hid (HB1.out.trans (hb2.mono HB1.out.size))
  clear hb2
  go_wp2_with (go_at_call 28; refine (CW.out _ HB2.out).mono ?_; rintro e w4 ⟨rfl, hb4⟩)
  go_ret
  exact ⟨rfl, HB2.out.trans (hb4.mono HB2.out.size)⟩
end Go.Proofs.YtbnnhbmnddaafaaGreatDoor
