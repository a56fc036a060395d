/- The document's answer for scan: Scan: the walk. -/
import Derived.Test.YtbnnhbmnddaafaaGreatDoorTm
namespace Go.Proofs.YtbnnhbmnddaafaaGreatDoor
open Go Go.RowKit Go.Kt Go.Kt.Rg Go.Shelf Go.Lib
attribute [local go_sem] Oper.semAt_some

theorem nlc_more (s : ByteArray) : ∀ i, i < s.size → xlinN s i = nlc s i
  | 0, _ => by simp [xlinN, nlc]
  | i + 1, h => by
    rw [xlinN, nlc_more s i (by omega), nlc_succ s i (by omega)]
    have hne : i + 1 ≠ s.size := by omega
    by_cases hb : B s i = 10
    · rw [if_pos (.inl hb), if_pos hb]
    · rw [if_neg (by omega), if_neg hb]
theorem xlin_last (s : ByteArray) (h : 0 < s.size) : xlinN s s.size = nlN s + 1 := by
  obtain ⟨n, hn⟩ : ∃ n, s.size = n + 1 := ⟨s.size - 1, by omega⟩
  have hlen : s.data.toList.length = n + 1 := by rw [← Lib.size_eq, hn]
  rw [hn, xlinN, if_pos (.inr hn.symm), nlc_more s n (by omega)]
  have hsplit : s.data.toList = s.data.toList.take n ++ [UInt8.ofNat (B s n)] := by
    have h1 := seg_more (s := s) (p := 0) (k := n) (by omega)
    rw [Nat.zero_add, Nat.zero_add, seg_eq, seg_eq, List.drop_zero, List.drop_zero] at h1
    rw [← h1, List.take_of_length_le (by omega)]
  have hlast : nlN s = (s.data.toList.take n).count 10 := by
    unfold nlN Lib.countByte Lib.trimSuffix
    split
    · rw [hlen]; rfl
    · rename_i hs
      have hne : UInt8.ofNat (B s n) ≠ 10 := fun he => by
        apply hs
        rw [hsplit, he]
        unfold Lib.hasSuffix
        simp
      conv => lhs; rw [hsplit]
      rw [List.count_append, List.count_singleton]
      have : (UInt8.ofNat (B s n) == 10) = false := by simpa using hne
      rw [this]
      rfl
  rw [hlast]
  rfl
theorem xlin_nl (s : ByteArray) : 65536 < xlinN s s.size ↔ 65536 ≤ nlN s := by
  rcases Nat.eq_zero_or_pos s.size with h | h
  · have h1 := nlN_le s
    have h2 : nlc s s.size ≤ s.size := by unfold nlc; exact Nat.le_trans List.count_le_length (by rw [List.length_take]; exact Nat.min_le_left _ _)
    have h3 := xlin_le s s.size
    omega
  · rw [xlin_last s h]; omega

theorem results_tmp4 {fn : Func} {t u v x : Tmp} (h : fn.results = #[.tmp t, .tmp u, .tmp v, .tmp x]) (tmps : Array Value) (P : Program) (w : World) :
    (results fn tmps).run P w = .ok (.tuple #[tmps.getD t undef, tmps.getD u undef, tmps.getD v undef, tmps.getD x undef]) w := by
  simp [results, h]
theorem tok_store {D : Nat} {w wr w5 : World} (hb : Below D w wr) (hD : D ≤ w.heap.size) (h5 : Below wr.heap.size wr w5) (k : Int) (x : ByteArray) (l c p : Int) :
    ∃ W6 W7, w5.alloc (.cells (tkX 0 ⟨#[]⟩ 0 0 0) 30) = W6 ∧ (Instr.storeAt 30 (.pointer (some ⟨w5.heap.size, 0, none⟩)) (tkA k x l c p)).run Tryz.prog W6 = .ok () W7 ∧ W7.heap[w5.heap.size]? = some (.cells (tkX k x l c p) 30 (0, 0)) ∧ Below w5.heap.size w5 W7 ∧ Below D w W7 := by
  have hDr : D ≤ wr.heap.size := Nat.le_trans hD hb.size
  have b5 : Below D w w5 := hb.trans (h5.mono hDr)
  obtain ⟨W6, hW6⟩ : ∃ W6, w5.alloc (.cells (tkX 0 ⟨#[]⟩ 0 0 0) 30) = W6 := ⟨_, rfl⟩
  have n6 : W6.heap[w5.heap.size]? = some (.cells (tkX 0 ⟨#[]⟩ 0 0 0) 30 (0, 0)) := by rw [← hW6]; exact World.alloc_heap_new w5 _
  have b6 : Below w5.heap.size w5 W6 := by rw [← hW6]; exact (Below.refl _ w5).alloc (Nat.le_refl _) _
  have b57 := b6.trans (set5_below (V := W6) (Nat.le_refl w5.heap.size) k x l c p)
  exact ⟨W6, _, hW6, store_new W6 w5.heap.size _ _ _ _ _ k x l c p n6, set5_at k x l c p n6, b57, b5.trans (b57.mono (Nat.le_trans hD b5.size))⟩
theorem tok_step {D : Nat} {w wr w5 : World} {ao : Option Addr} {m cp : Nat} {T : List Tk} (hown : OwnS (fun b => D ≤ b) 30 5 (.slice ao m cp) m (tksC T) wr) (hb : Below D w wr) (hD : D ≤ w.heap.size) (h5 : Below wr.heap.size wr w5) (t : Tk) (k : Int) (x : ByteArray) (l c p : Int) (ht : tkC t = [.int .i64 k, .string x, .int .i64 l, .int .i64 c, .int .i64 p]) (hm : m ≤ 2097152) :
    ∃ W6 W7 g3 cap3 w8, w5.alloc (.cells (tkX 0 ⟨#[]⟩ 0 0 0) 30) = W6 ∧
      (Instr.storeAt 30 (.pointer (some ⟨w5.heap.size, 0, none⟩)) (tkA k x l c p)).run Tryz.prog W6 = .ok () W7 ∧
      W7.heap[w5.heap.size]? = some (.cells (tkX k x l c p) 30 (0, 0)) ∧
      (∀ ty, (Builtin.append_ #[23, 23] ty #[.slice ao m cp, .slice (some ⟨W7.heap.size, 0, none⟩) 1 1]).run Tryz.prog (W7.alloc (.cells (tkX k x l c p) 30)) = .ok (.slice (some ⟨g3, 0, none⟩) (m + 1) cap3) w8) ∧
      w8.heap[w5.heap.size]? = some (.cells (tkX k x l c p) 30 (0, 0)) ∧
      OwnS (fun b => D ≤ b) 30 5 (.slice (some ⟨g3, 0, none⟩) (m + 1) cap3) (m + 1) (tksC (T ++ [t])) w8 ∧ Below D w w8 := by
  have hDr : D ≤ wr.heap.size := Nat.le_trans hD hb.size
  have hz5 := h5.size
  have b5 : Below D w w5 := hb.trans (h5.mono hDr)
  have own5 : OwnS (fun b => D ≤ b ∧ b < w5.heap.size) 30 5 (.slice ao m cp) m (tksC T) w5 := by
    have h1 := hown.keep (X := fun _ => False) (B := w5) ⟨h5.os, h5.tape, h5.output, h5.size, fun c hc _ => h5.block c hc⟩ (fun _ h => h.elim)
    exact ⟨h1.1, fun g hg => ⟨h1.2 g hg, own_ne h1 hg⟩⟩
  obtain ⟨W6, W7, hW6, st, n7, b57, b7⟩ := tok_store hb hD h5 k x l c p
  have own7 : OwnS (fun b => D ≤ b ∧ b < w5.heap.size) 30 5 (.slice ao m cp) m (tksC T) W7 := own5.keep (X := fun _ => False) ⟨b57.os, b57.tape, b57.output, b57.size, fun c hc _ => b57.block c hc⟩ (fun _ h => h.elim)
  obtain ⟨g3, cap3, w8, hrun, hown8, hk8, hg8, hz8⟩ := append_x (P := Tryz.prog) W7 23 30 Tryz.underlying23 tinfoTok rfl (by omega) own7 [.int .i64 k, .string x, .int .i64 l, .int .i64 c, .int .i64 p] rfl
    (by intro u hu; simp at hu; rcases hu with rfl | rfl | rfl | rfl | rfl <;> rfl) (by unfold maxLen; omega) (by omega)
  have hz7 := b57.size
  have hge : D ≤ g3 := by
    rcases hg8 with h | h
    · exact (own7.2 g3 h).1
    · omega
  refine ⟨W6, W7, g3, cap3, w8, hW6, st, n7, hrun, ?_, ?_, b7.trans (hk8.below (by omega) fun b h => (own7.2 b h).1)⟩
  · have hlt : w5.heap.size < W7.heap.size := (Array.getElem?_eq_some_iff.1 n7).1
    exact (hk8.same w5.heap.size hlt (fun h => by have := (own7.2 _ h).2; omega)).trans n7
  · have e : tksC (T ++ [t]) = tksC T ++ [.int .i64 k, .string x, .int .i64 l, .int .i64 c, .int .i64 p] := by rw [← ht]; simp [tksC]
    rw [e]
    exact hown8.weaken (fun b h => by subst h; exact hge)

def xscanO (D : Nat) (R : SR) (e : Ending) (w' : World) : Prop := match R with
  | .ok L => ∃ g cap, e = .returned (.tuple #[.slice (some ⟨g, 0, none⟩) L.length cap, .int .i64 0, .int .i64 0, .int .i64 0]) ∧ OwnS (fun b => D ≤ b) 30 5 (.slice (some ⟨g, 0, none⟩) L.length cap) L.length (tksC L) w'
  | .bad no l c => e = .returned (.tuple #[.slice none 0 0, .int .i64 (no : Nat), .int .i64 (l : Nat), .int .i64 (c : Nat)])
theorem bad_no {s : ByteArray} {p no j : Nat} (h : xoneV s p = .bad no j) : no = 25 ∨ no = 4 ∨ no = 9 ∨ no = 10 := by
  have hx : ∀ (f i : Nat) (o : List UInt8) (no j : Nat), xtextF s f i o = .bad no j → no = 9 ∨ no = 10 := by
    intro f
    induction f with
    | zero => intro i o no j h; cases h
    | succ f ih =>
      intro i o no j h
      rw [xtextF] at h
      split at h
      · split at h
        · split at h
          · exact ih _ _ _ _ h
          · cases h; exact .inr rfl
        · split at h
          · split at h
            · exact ih _ _ _ _ h
            · cases h; exact .inl rfl
          · split at h
            · cases h
            · exact ih _ _ _ _ h
      · cases h
  unfold xoneV at h
  split at h
  · split at h
    · cases h; exact .inl rfl
    · split at h
      · cases h; exact .inr (.inl rfl)
      · split at h
        · split at h
          · cases h; exact .inl rfl
          · cases h
        · split at h
          · cases h
          · split at h
            · cases h
            · rename_i hz
              cases h
              rcases hx _ _ _ _ _ hz with h | h
              · exact .inr (.inr (.inl h))
              · exact .inr (.inr (.inr h))
  · cases h
set_option maxRecDepth 100000 in
set_option maxHeartbeats 4000000 in
theorem xscan_any (s : ByteArray) (w : World) (hs : s.size ≤ 140737488351232) :
    Calls Tryz.prog 29 #[.string s] w fun e w' => xscanO w.heap.size (scanS s) e w' ∧ Below w.heap.size w w' := by
  by_cases hz : 1048576 < s.size
  · have hR : scanS s = .bad 5 0 0 := by unfold scanS; rw [if_pos hz]
    have hz' : (1048576 : Int) < s.size := by omega
    rw [hR]
    clear hR hz
    go_enter Tryz.func29, Tryz.ntmps29
    go_wp2
    (try simp only [Exit.inBlock, Exit.then])
    refine bodyPost_ret (results_tmp4 rfl _ _ _) rfl ?_
    exact ⟨rfl, Below.refl _ _⟩
  have hz' : ¬ (1048576 : Int) < s.size := by omega
  have CL := Lib.hid (fun V => xlines_any s V hs)
  by_cases hn : 65536 ≤ nlN s
  · have hR : scanS s = .bad 5 65537 1 := by unfold scanS; rw [if_neg hz, if_pos hn]
    have hl : (65536 : Int) < (xlinN s s.size : Nat) := by have := (xlin_nl s).2 hn; omega
    rw [hR]
    generalize xlinN s s.size = L at *
    clear hR hz hn
    go_enter Tryz.func29, Tryz.ntmps29
    go_wp2_with (go_at_call 51; refine (CL.out _).mono ?_; clear CL; rintro e w1 ⟨rfl, rfl⟩)
    (try simp only [Exit.inBlock, Exit.then])
    refine bodyPost_ret (results_tmp4 rfl _ _ _) rfl ?_
    exact ⟨rfl, Below.refl _ _⟩
  have hl : ¬ (65536 : Int) < (xlinN s s.size : Nat) := by
    intro h
    exact hn ((xlin_nl s).1 (by omega))
  obtain ⟨R, hR⟩ : ∃ R, finS (runS s (s.size + 1) 0 c0S) = R := ⟨_, rfl⟩
  have hRs : scanS s = R := by
    rw [← hR]
    unfold scanS finS
    rw [if_neg hz, if_neg hn]
    rfl
  rw [hRs]
  have HX : Hid (XS s 0 [] R) := Lib.hid (by rw [← hR]; exact XS.first s)
  generalize xlinN s s.size = L at *
  clear hR hRs hn
  go_enter Tryz.func29, Tryz.ntmps29
  go_wp2_with (go_at_call 51; refine (CL.out _).mono ?_; clear CL; rintro e w1 ⟨rfl, rfl⟩)
  go_loopw [6, 7] (fun o v wr => ∃ (i m cp : Nat) (ao : Option Addr) (T : List Tk), i ≤ s.size ∧ m ≤ i ∧ v = .int .i64 i ∧ o = .slice ao m cp ∧ m = T.length ∧ OwnS (fun b => w.heap.size ≤ b) 30 5 (.slice ao m cp) m (tksC T) wr ∧ Below w.heap.size w wr ∧ XS s i T R)
    (fun _ v _ => s.size - (RowKit.intOf v).toNat)
  case atStart => exact ⟨0, 0, 0, none, [], Nat.zero_le _, Nat.le_refl _, rfl, rfl, rfl, own_nil _ _ _ _, Below.refl _ _, HX.out⟩
  case round =>
    obtain ⟨i, m, cp, ao, T, hi, hmi, rfl, rfl, hm, hown, hb, hX⟩ := hrel
    obtain ⟨y1, y2, pl, ⟨n0, hn0⟩, hpl, hcase⟩ := XS.step hX
    have CA := Lib.hid (fun V => xpast_any s i V hs hi)
    generalize xpastF s (s.size + 1) i = p at *
    obtain ⟨l, c, p2⟩ := pl
    simp only at hpl
    subst hpl
    have CO := Lib.hid (fun V => xone_any s n0 l c p2 V (by omega) hn0 y2)
    cases hx : xoneV s p2 with
    | fin =>
      rw [hx] at CO hcase
      have HST : Hid (∀ w5, Below wr.heap.size wr w5 → _) := Lib.hid fun w5 h5 => tok_step hown hb (Nat.le_refl _) h5 ⟨0, [], (l, c, p2)⟩ 0 ⟨#[]⟩ (l : Nat) (c : Nat) (p2 : Nat) rfl (by omega)
      have HC := Lib.hid (And.intro hcase.2 hm)
      clear hx hcase hown hb hX hm hn0
      go_wp2_with (first | (go_at_call 53; refine (CA.out _).mono ?_; clear CA; rintro e w1 ⟨rfl, rfl⟩) | (go_at_call 52; refine (CO.out _).mono ?_; clear CO; rintro e w5 ⟨he, h5⟩; have he2 : e = _ := he; subst he2; obtain ⟨W6, W7, g3, cap3, w8, hW6, st, n7, hrun, n8, own8, b8⟩ := HST.out w5 h5; obtain ⟨n5, hn5⟩ : ∃ n5, w5.heap.size = n5 := ⟨_, rfl⟩; rw [hn5] at st n7 n8; obtain ⟨q0, q1, q2, q3, q4⟩ := cells5 n7; obtain ⟨r0, -, -, -, -⟩ := cells5 n8; have ST := Lib.hid st; have RUN := Lib.hid hrun; have HE := Lib.hid (And.intro own8 b8); clear st hrun n7 n8 own8 b8 h5 HST) | (refine wpList_store_eq rfl rfl rfl rfl rfl ST.out ?_; clear ST) | (at_builtin; refine wpList_append_eq rfl rfl rfl rfl RUN.out ?_; clear RUN))
      (try simp only [Exit.inBlock, Exit.then])
      refine bodyPost_ret (results_tmp4 rfl _ _ _) rfl ?_
      obtain ⟨hR, hm⟩ := HC.out
      rw [hR]
      have hl : (T ++ [(⟨0, [], (l, c, p2)⟩ : Tk)]).length = m + 1 := by rw [hm]; simp
      exact ⟨⟨g3, cap3, by rw [hl]; rfl, by rw [hl]; exact HE.out.1⟩, HE.out.2⟩
    | tok k x next =>
      rw [hx] at CO hcase
      obtain ⟨hk3, hpn, hnz, hX2⟩ := hcase
      have hk0 : ((k : Int) == 0) = false := by simp; omega
      have HST : Hid (∀ w5, Below wr.heap.size wr w5 → _) := Lib.hid fun w5 h5 => tok_step hown hb (Nat.le_refl _) h5 ⟨k, x, (l, c, p2)⟩ (k : Nat) ⟨x.toArray⟩ (l : Nat) (c : Nat) (p2 : Nat) rfl (by omega)
      have HC := Lib.hid (And.intro hX2 (And.intro hm (And.intro hpn (And.intro hnz (And.intro y1 hmi)))))
      clear hx hX2 hown hb hX hm hn0 hk3 hpn hnz y1 y2 hmi
      go_wp2_with (first | (go_at_call 53; refine (CA.out _).mono ?_; clear CA; rintro e w1 ⟨rfl, rfl⟩) | (go_at_call 52; refine (CO.out _).mono ?_; clear CO; rintro e w5 ⟨he, h5⟩; obtain ⟨a, rfl⟩ := he; obtain ⟨W6, W7, g3, cap3, w8, hW6, st, n7, hrun, n8, own8, b8⟩ := HST.out w5 h5; obtain ⟨n5, hn5⟩ : ∃ n5, w5.heap.size = n5 := ⟨_, rfl⟩; rw [hn5] at st n7 n8; obtain ⟨q0, q1, q2, q3, q4⟩ := cells5 n7; obtain ⟨r0, -, -, -, -⟩ := cells5 n8; have ST := Lib.hid st; have RUN := Lib.hid hrun; have HE := Lib.hid (And.intro own8 b8); clear st hrun n7 n8 own8 b8 h5 HST) | (refine wpList_store_eq rfl rfl rfl rfl rfl ST.out ?_; clear ST) | (at_builtin; refine wpList_append_eq rfl rfl rfl rfl RUN.out ?_; clear RUN))
      go_roundw
      case rel => exact ⟨next, m + 1, cap3, some ⟨g3, 0, none⟩, T ++ [⟨k, x, (l, c, p2)⟩], HC.out.2.2.2.1, by have := HC.out.2.2; omega, rfl, rfl, by rw [HC.out.2.1]; simp, HE.out.1, HE.out.2, HC.out.1⟩
      case measure => have := HC.out.2.2; simp [RowKit.intOf]; omega
    | bad no j =>
      rw [hx] at CO hcase
      have hno := bad_no hx
      have hn1 : ((no : Int) == 0) = false := by simp; omega
      obtain ⟨⟨l2, c2, j2⟩, ⟨n2, hn2⟩, hj2, hR⟩ := hcase
      simp only at hj2 hR
      subst hj2
      have CL2 := Lib.hid (fun V => xplace_any s n2 l2 c2 j2 V (by omega) hn2)
      have HST : Hid (∀ w5, Below wr.heap.size wr w5 → ∀ k x l c p, _) := Lib.hid fun w5 h5 k x l c p => tok_store hb (Nat.le_refl _) h5 k x l c p
      have HC := Lib.hid hR
      clear hx hR hown hb hX hm hn0 hn2 hno
      go_wp2_with (first | (go_at_call 53; refine (CA.out _).mono ?_; clear CA; rintro e w1 ⟨rfl, rfl⟩) | (go_at_call 52; refine (CO.out _).mono ?_; clear CO; rintro e w5 ⟨he, h5⟩; obtain ⟨ki, a, rfl⟩ := he; obtain ⟨W6, W7, hW6, st, n7, -, b7⟩ := HST.out w5 h5 ki ⟨#[]⟩ (l : Nat) (c : Nat) (p2 : Nat); obtain ⟨n5, hn5⟩ : ∃ n5, w5.heap.size = n5 := ⟨_, rfl⟩; rw [hn5] at st n7; obtain ⟨q0, q1, q2, q3, q4⟩ := cells5 n7; have ST := Lib.hid st; have HE := Lib.hid b7; clear st n7 b7 h5 HST) | (refine wpList_store_eq rfl rfl rfl rfl rfl ST.out ?_; clear ST) | (go_at_call 54; refine (CL2.out _).mono ?_; clear CL2; rintro e w1 ⟨rfl, rfl⟩))
      (try simp only [Exit.inBlock, Exit.then])
      refine bodyPost_ret (results_tmp4 rfl _ _ _) rfl ?_
      rw [HC.out]
      exact ⟨rfl, HE.out⟩
end Go.Proofs.YtbnnhbmnddaafaaGreatDoor
