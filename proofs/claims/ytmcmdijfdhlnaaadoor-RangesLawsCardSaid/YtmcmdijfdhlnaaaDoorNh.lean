/- ranges.melted. -/
import Derived.Test.YtmcmdijfdhlnaaaDoorNg
namespace Go.Proofs.YtmcmdijfdhlnaaaDoor
open Go Go.RowKit Go.Kt Go.Kt.Rg

theorem encR_set (l : List Run) (c : Run) (u : Int) : (encR (l ++ [c])).set (l.length * 2 + 1) (.int .i64 u) = encR (l ++ [(c.1, u)]) := by
  rw [encR_snoc, encR_snoc, List.set_append_right _ _ (by rw [encR_len]; omega), encR_len]
  rw [show l.length * 2 + 1 - l.length * 2 = 1 by omega]
  rfl
theorem own_empty {Y : Nat → Prop} {e : TypeId} {size n : Nat} {ao : Option Addr} {cap : Nat} {xs : List Value} {W : World} (h : OwnS Y e size (.slice ao n cap) n xs W) : (ao = none ∧ n = 0 ∧ cap = 0) ∨ ∃ g, ao = some ⟨g, 0, none⟩ ∧ g < W.heap.size ∧ Y g := by
  rcases h.shape with ⟨h1, h2⟩ | ⟨g, cp, h1, h2, h3⟩
  · injection h1 with e1 e2 e3
    exact .inl ⟨e1, h2, e3⟩
  · injection h1 with e1 _ _
    exact .inr ⟨g, e1, h3, h2⟩

/-- A row of runs is handed back, new. -/
def MadeR (l : List Run) (Z : Nat → Prop) (w : World) (e : Ending) (w' : World) : Prop :=
  ∃ ao m cap, e = .returned (.slice ao m cap) ∧ m = l.length ∧ OwnS (fun b => w.heap.size ≤ b) 51 2 (.slice ao m cap) m (encR l) w' ∧ Keep Z w w'

set_option maxRecDepth 100000 in
set_option maxHeartbeats 2000000 in
theorem melted_loop (l : List Run) (ao : Option Addr) (n cap : Nat) (Z : Nat → Prop) (w : World) (hn : l.length = n) (hl : n ≤ 2199023255552) (hF : Fit l)
    (C : Calls Tryd.prog 37 #[.slice ao n cap, .func (.func 38) #[] #[]] w fun e w' => e = .returned (.tuple #[]) ∧ ∃ s : List Run, s.Perm l ∧ Rises s ∧ SlR w' (.slice ao n cap) s ∧ Keep Z w w') :
    Calls Tryd.prog 21 #[.slice ao n cap] w (MadeR (canonOf l) Z w) := by
  have HC := Lib.hid C
  have HF := Lib.hid hF
  clear C hF
  go_enter Tryd.func21, Tryd.ntmps21
  go_wp2_with fail
  refine HC.out.mono ?_
  rintro e w' ⟨rfl, s, hp, hr, hS, hK⟩
  have HN : Hid (s.length = n) := Lib.hid (hp.length_eq.trans hn)
  have hme := melt_any HF.out hp hr
  have HE := Lib.hid hme
  have hfs := HF.out.perm hp
  have HS := Lib.hid hS
  have HK := Lib.hid (And.intro hK hfs)
  clear hp hr hS hK hme hn hfs
  go_wp2_with fail
  go_loopw [3, 11] (fun o x wr => ∃ (k m cp : Nat) (ap : Option Addr) (M : List Run), x = .int .i64 k ∧ k ≤ n ∧ o = .slice ap m cp ∧ m = M.length ∧ m ≤ k ∧ OwnS (fun b => w'.heap.size ≤ b) 51 2 (.slice ap m cp) m (encR M) wr ∧ Below w'.heap.size w' wr ∧
      ((k = 0 ∧ M = []) ∨ ∃ done c, M = done ++ [c] ∧ 0 < k ∧ done ++ meltF c (s.drop k) = melt s)) (fun _ x _ => n - (RowKit.intOf x).toNat)
  case atStart => exact ⟨0, 0, 0, none, [], rfl, by omega, rfl, rfl, by omega, own_nil _ _ _ _, Below.refl _ _, .inl ⟨rfl, rfl⟩⟩
  case round =>
    obtain ⟨k, m, cp, ap, M, rfl, hk, rfl, hm, hmk, hown, hb, hM⟩ := hrel
    have hbs := hb.size
    have HM := Lib.hid hm
    have HI := Lib.hid (And.intro hown (And.intro hb hM))
    clear hm hown hb hM
    by_cases hlt : k < n
    · have hlt' : (k : Int) < n := by omega
      obtain ⟨x, hx⟩ : ∃ x, s[k]? = some x := ⟨_, List.getElem?_eq_getElem (by rw [HN.out]; exact hlt)⟩
      obtain ⟨g, rfl, r1, r2⟩ := (HS.out.below HI.out.2.1).at_ hx
      have hdr : s.drop k = x :: s.drop (k + 1) := by
        obtain ⟨hkl, rfl⟩ := List.getElem?_eq_some_iff.1 hx
        exact List.drop_eq_getElem_cons hkl
      have HD := Lib.hid hdr
      have HX := Lib.hid hx
      clear hx hdr
      obtain ⟨x1, x2⟩ := x
      simp only at r1 r2
      have WF : Hid (∀ q, ∃ V, (wr.alloc (.cells #[.int .i64 x1, .int .i64 x2] 51)).drewN q = V ∧ V.heap.size = wr.heap.size + 1 ∧ Below w'.heap.size w' V ∧ V.cell? ⟨wr.heap.size, 0, none⟩ = some (.int .i64 x1) ∧ V.cell? ⟨wr.heap.size, 1, none⟩ = some (.int .i64 x2) ∧
          OwnS (fun b => w'.heap.size ≤ b) 51 2 (.slice ap m cp) m (encR M) V) := Lib.hid fun q => by
        refine ⟨_, rfl, by show (wr.alloc _).heap.size = _; simp, below_drewN (HI.out.2.1.alloc hbs _) _, ?_, ?_, ?_⟩
        · show (wr.alloc _).cell? _ = _; rw [Lib.cell_of_heap (World.alloc_heap_new wr _)]; rfl
        · show (wr.alloc _).cell? _ = _; rw [Lib.cell_of_heap (World.alloc_heap_new wr _)]; rfl
        · have h1 : OwnS (fun b => w'.heap.size ≤ b) 51 2 (.slice ap m cp) m (encR M) (wr.alloc (.cells #[.int .i64 x1, .int .i64 x2] 51)) := ⟨HI.out.1.1.alloc _, HI.out.1.2⟩
          exact h1.keep (X := fun _ => False) (.of_all (below_drewN (Below.refl _ _) _)) (fun _ h => h.elim)
      rcases HI.out.2.2 with ⟨hk0, hM0⟩ | ⟨done, c, hMd, hk0, hd⟩
      · subst hM0
        subst hk0
        have hm0 : m = 0 := HM.out
        subst hm0
        have hd : meltF (x1, x2) (s.drop 1) = melt s := by
          have : s = (x1, x2) :: s.drop 1 := by have := HD.out; simpa using this
          conv => rhs; rw [this, melt]
        have HG := Lib.hid hd
        clear hd
        go_wp2_with fail
        go_quiet (fail)
        obtain ⟨V, hV, hzV, hbV, u1, u2, hownV⟩ := WF.out nq
        obtain ⟨g2, cap2, w2, hrun2, hown2, hb2, hz2, hk2⟩ := append_run hownV hbV (by rw [hzV]; omega) (x1, x2) (by omega)
        rw [hzV, ← hV] at hrun2
        have HRun2 := Lib.hid hrun2
        have HO := Lib.hid (And.intro hown2 hb2)
        clear hrun2 hown2 hb2 hz2 hk2 hownV hbV hV hzV u1 u2
        go_wp2_with (at_builtin; refine wpList_append_eq rfl rfl rfl rfl HRun2.out ?_)
        go_roundw
        case rel => exact ⟨1, 1, cap2, some ⟨g2, 0, none⟩, [(x1, x2)], rfl, by omega, rfl, rfl, by omega, HO.out.1, HO.out.2, .inr ⟨[], (x1, x2), rfl, by omega, HG.out⟩⟩
        case measure => simp [RowKit.intOf]; omega
      · subst hMd
        obtain ⟨p, rfl⟩ : ∃ p, m = p + 1 := ⟨done.length, by have := HM.out; simp at this; exact this⟩
        have hpl : p = done.length := by have := HM.out; simp at this; exact this
        have HPL := Lib.hid hpl
        obtain ⟨g2, rfl, r3, r4⟩ := (slr_of_own HI.out.1 HM.out).at_ (i := p) (x := c) (by rw [hpl]; simp)
        have l2 : g2 < wr.heap.size := lt_of_cell r3
        have hfz : wr.frozen? ⟨g2, p * 2 + 1, none⟩ = false := HI.out.1.1.frozenAt _
        obtain ⟨c1, c2⟩ := c
        simp only at r3 r4
        rw [HD.out, meltF] at hd
        simp only at hd
        clear hpl
        by_cases hle : x1 ≤ c2
        · rw [if_pos hle] at hd
          have hdec : decide (x1 ≤ c2) = true := decide_eq_true hle
          have HG := Lib.hid hd
          clear hd
          go_wp2_with fail
          go_quiet (fail)
          go_wp2_with fail
          go_region
          obtain ⟨V, hV, hzV, hbV, u1, u2, hownV⟩ := WF.out (nq + 1)
          rw [hV]
          have hst := (hownV.1.stored (p * 2 + 1) (.int .i64 (max c2 x2))).1
          rw [HPL.out, encR_set, ← HPL.out] at hst
          have hown3 : OwnS (fun b => w'.heap.size ≤ b) 51 2 (.slice (some ⟨g2, 0, none⟩) (p + 1) cp) (p + 1) (encR (done ++ [(c1, max c2 x2)])) (V.setCell ⟨g2, p * 2 + 1, none⟩ (.int .i64 (max c2 x2))) := ⟨hst, hownV.2⟩
          have hb3 : Below w'.heap.size w' (V.setCell ⟨g2, p * 2 + 1, none⟩ (.int .i64 (max c2 x2))) := hbV.setCell (HI.out.1.2 g2 rfl) _
          have HO := Lib.hid (And.intro hown3 hb3)
          clear hst hown3 hb3 hownV hbV hV hzV u1 u2
          go_wp2_with fail
          go_roundw
          case rel => exact ⟨k + 1, p + 1, cp, some ⟨g2, 0, none⟩, done ++ [(c1, max c2 x2)], by go_num, by omega, rfl, by simp [HPL.out], by omega, HO.out.1, HO.out.2, .inr ⟨done, (c1, max c2 x2), rfl, by omega, HG.out⟩⟩
          case measure => simp [RowKit.intOf]; omega
        · rw [if_neg hle] at hd
          have hdec : decide (x1 ≤ c2) = false := decide_eq_false hle
          have HG := Lib.hid hd
          clear hd
          go_wp2_with fail
          go_quiet (fail)
          obtain ⟨V, hV, hzV, hbV, u1, u2, hownV⟩ := WF.out nq
          obtain ⟨g3, cap2, w2, hrun2, hown2, hb2, hz2, hk2⟩ := append_run hownV hbV (by rw [hzV]; omega) (x1, x2) (by omega)
          rw [hzV, ← hV] at hrun2
          have HRun2 := Lib.hid hrun2
          have HO := Lib.hid (And.intro hown2 hb2)
          clear hrun2 hown2 hb2 hz2 hk2 hownV hbV hV hzV u1 u2
          go_wp2_with (at_builtin; refine wpList_append_eq rfl rfl rfl rfl HRun2.out ?_)
          go_roundw
          case rel => exact ⟨k + 1, p + 1 + 1, cap2, some ⟨g3, 0, none⟩, done ++ [(c1, c2)] ++ [(x1, x2)], by go_num, by omega, rfl, by simp [HPL.out], by omega, HO.out.1, HO.out.2, .inr ⟨done ++ [(c1, c2)], (x1, x2), rfl, by omega, by have := HG.out; simpa using this⟩⟩
          case measure => simp [RowKit.intOf]; omega
    · have hlt' : ¬ (k : Int) < n := by omega
      obtain rfl : k = n := by omega
      have hMm : M = melt s := by
        rcases HI.out.2.2 with ⟨hk0, hM0⟩ | ⟨done, c, hMd, hk0, hd⟩
        · have : s = [] := List.eq_nil_of_length_eq_zero (by rw [HN.out, hk0])
          rw [hM0, this]; rfl
        · have hdr : s.drop k = [] := by rw [← HN.out]; exact List.drop_length
          rw [hdr, meltF] at hd
          rw [hMd]; exact hd
      have HMm := Lib.hid (hMm.trans HE.out)
      clear hMm
      go_wp2_with fail
      go_ret
      have e := HMm.out
      refine ⟨ap, m, cp, rfl, by rw [← e]; exact HM.out, ?_, HK.out.1.trans (Keep.of_all HI.out.2.1)⟩
      rw [← e]
      exact HI.out.1.weaken (fun b h => Nat.le_trans HK.out.1.size h)

/-- A row of one's own is melted. -/
theorem rmelted_any (l : List Run) (ao : Option Addr) (n cap : Nat) {Y : Nat → Prop} (w : World) (h : OwnS Y 51 2 (.slice ao n cap) n (encR l) w) (hn : n = l.length) (hl : n ≤ 2199023255552) (hF : Fit l) :
    Calls Tryd.prog 21 #[.slice ao n cap] w (MadeR (canonOf l) (fun b => (Value.slice ao n cap).ownBlock = some b) w) := by
  subst hn
  by_cases h0 : l = []
  · subst h0
    exact melted_loop [] ao 0 cap _ w rfl (by omega) hF ((sort_none ao cap w).mono fun e w' ⟨h1, h2⟩ => ⟨h1, [], List.Perm.refl _, List.Pairwise.nil, ⟨ao, cap, rfl, .inl rfl⟩, by rw [h2]; exact Keep.refl _ _⟩)
  · rcases own_empty h with ⟨_, hn, _⟩ | ⟨g, rfl, _, _⟩
    · exact absurd (List.eq_nil_of_length_eq_zero hn) h0
    · refine melted_loop l (some ⟨g, 0, none⟩) l.length cap _ w rfl hl hF ((sort_any l g cap w h hl).mono ?_)
      rintro e w' ⟨h1, s, h2, h3, h4, h5⟩
      exact ⟨h1, s, h2, h3, h4, h5.weaken fun b _ hb => by rw [hb]; rfl⟩
end Go.Proofs.YtmcmdijfdhlnaaaDoor
