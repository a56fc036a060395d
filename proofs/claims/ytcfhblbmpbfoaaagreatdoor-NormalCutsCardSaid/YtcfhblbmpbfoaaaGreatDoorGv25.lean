/- Parts of the proof of what the last text says. -/
import Derived.Test.YtcfhblbmpbfoaaaGreatDoorGv19
import Derived.Test.YtcfhblbmpbfoaaaGreatDoorDzx
import Derived.Test.YtcfhblbmpbfoaaaGreatDoorDyx
namespace Go.Proofs.YtcfhblbmpbfoaaaGreatDoor
open Go Go.RowKit Go.Kt Go.Kt.Sg Go.Kt.Rg Go.Maps

theorem rise_len : ∀ (L : List Nat) (a b : Nat), L.Pairwise (· < ·) → (∀ x ∈ L, a ≤ x ∧ x < b) → L.length ≤ b - a
  | [], _, _, _, _ => Nat.zero_le _
  | x :: L, a, b, h, k => by
    have h' := List.pairwise_cons.1 h
    have hx := k x (List.mem_cons_self ..)
    have := rise_len L (x + 1) b h'.2 fun y hy => ⟨h'.1 y hy, (k y (List.mem_cons_of_mem _ hy)).2⟩
    rw [List.length_cons]
    omega
theorem valid_max {z : Nat} (h : Lib.validRune (z : Int) = true) : z ≤ 1114111 := by
  unfold Lib.validRune at h
  have := of_decide_eq_true h
  omega
def hanL : List Nat := (List.range 11172).map (· + 44032)
theorem prn_parse {l : List UInt8} {line : Nat} {S : RdS} {L : List Nat} (h : ParseR l 0 line S L) : ∃ fl, PrN S fl (L ++ hanL) := by
  obtain ⟨hS, fl, hF⟩ := full_parse h
  obtain ⟨_, _, _, hp, hm⟩ := h.ok
  refine ⟨fl, fun x l hx => (hS.ds x l hx).2.1, hF, fun x hx => ?_, ?_, fun x y hy => ?_⟩
  · by_cases hs : sylP (x : Int) = true
    · refine List.mem_append_right _ (List.mem_map.2 ⟨x - 44032, List.mem_range.2 ?_, ?_⟩) <;>
        (unfold sylP at hs; simp only [Bool.and_eq_true, decide_eq_true_eq] at hs; omega)
    · refine List.mem_append_left _ ((hm x).2 ?_)
      unfold dcpV at hx
      rw [if_neg hs, atZ_nat] at hx
      cases hq : S.ds x with
      | none => rw [hq] at hx; exact absurd rfl hx
      | some v => rfl
  · have h1 := rise_len L 0 1114112 hp fun x hx => by
      obtain ⟨v, hv⟩ := Option.isSome_iff_exists.1 ((hm x).1 hx)
      have := valid_max (hS.ds x v hv).1.1
      exact ⟨Nat.zero_le _, by omega⟩
    rw [List.length_append, hanL, List.length_map, List.length_range]
    omega
  · unfold dcpV at hy
    split at hy
    · next hs =>
      unfold sylP at hs
      simp only [Bool.and_eq_true, decide_eq_true_eq] at hs
      unfold partsP at hy
      simp only [List.mem_append, List.mem_cons, List.not_mem_nil, or_false] at hy
      have hb : (x - 44032).toNat < 11172 := by omega
      rcases hy with (rfl | rfl) | hy
      · omega
      · omega
      · split at hy
        · cases hy
        · rw [List.mem_singleton.1 hy]; omega
    · unfold atZ at hy
      split at hy
      · cases hq : S.ds x.toNat with
        | none => rw [hq] at hy; cases hy
        | some v => rw [hq] at hy; exact valid_max ((hS.ds _ v hq).2.2 y hy)
      · cases hy
theorem full_i32 {S : RdS} {fl : Int → List Int} {L : List Nat} (hN : PrN S fl L) : ∀ r, I32 r → ∀ y ∈ fl r, I32 y := by
  obtain ⟨F, hF⟩ := hN.fe.fin
  have key : ∀ (f : Nat) (r : Int), EndP S f r → I32 r → ∀ y ∈ fl r, I32 y := by
    intro f
    induction f with
    | zero => intro r h; exact h.elim
    | succ f ih =>
      intro r h hr y hy
      rw [hN.fe.eq r] at hy
      split at hy
      · rw [List.mem_singleton.1 hy]; exact hr
      · obtain ⟨z, hz, hy⟩ := List.mem_flatMap.1 hy
        have hb := hN.vy r z hz
        exact ih (z : Int) (h z hz) ⟨by omega, by omega⟩ y hy
  exact fun r hr => key F r (hF r) hr
theorem fulR_same {S : RdS} {fl gl : Int → List Int} : ∀ {l : List Int}, (∀ r ∈ l, fl r = gl r) → fulR S fl l = fulR S gl l
  | [], _ => rfl
  | r :: l, h => by
    have h1 := h r (List.mem_cons_self ..)
    have h2 := fulR_same (S := S) fun r hr => h r (List.mem_cons_of_mem _ hr)
    unfold fulR at h2 ⊢
    rw [List.flatMap_cons, List.flatMap_cons, h2]
    unfold pcR
    rw [h1]

def fileN : List UInt8 := [99, 108, 97, 115, 115, 32, 48, 51, 48, 48, 46, 46, 48, 51, 48, 52, 32, 50, 51, 48, 10, 99, 108, 97, 115, 115, 32, 48, 51, 48, 50, 32, 48, 10, 99, 108, 97, 115, 115, 32, 48, 51, 50, 55, 32, 50, 48, 50, 10, 100, 101, 99, 111, 109, 112, 32, 48, 48, 67, 48, 32, 48, 48, 52, 49, 32, 48, 51, 48, 48, 10, 100, 101, 99, 111, 109, 112, 32, 49, 69, 65, 54, 32, 48, 48, 67, 48, 32, 48, 51, 48, 49, 10, 100, 101, 99, 111, 109, 112, 32, 48, 48, 67, 53, 32, 48, 48, 52, 49, 32, 48, 51, 48, 48, 10]
def rdN : RdS := ⟨[(768, 772, 230), (770, 770, 0), (807, 807, 202)], [], updN (updN (updN (fun _ => none) 192 [65, 768]) 7846 [192, 769]) 197 [65, 768], fun _ => none, updN (updN (updN (fun _ => none) 192 4) 7846 5) 197 6, fun _ => none⟩
theorem fileN_reads : readP 0 rd0 (linesP fileN) = (0, 6, rdN) := by kernel_rfl
theorem fileN_lines : lnC fileN = 6 := by kernel_rfl
theorem fileN_only {no line : Nat} {S : RdS} {L : List Nat} (h : ParseR fileN no line S L) : no = 0 ∧ S = rdN ∧ L = [192, 197, 7846] := by
  have hr := fileN_reads
  have hlen : fileN.length = 115 := by kernel_rfl
  rcases h with ⟨h, _⟩ | ⟨_, h1, _⟩ | ⟨_, h1, h2, h3, h4, h5, _⟩
  · rw [fileN_lines, hlen] at h; omega
  · rw [hr] at h1; exact absurd rfl h1
  · rw [hr] at h2
    simp only at h2
    subst h2
    have hL : L = [192, 197, 7846] := rise_eq h3 (by decide) (fun x => by
      rw [h4 x]
      simp only [rdN, updN, List.mem_cons, List.not_mem_nil, or_false]
      by_cases e : x = 192
      · subst e; decide
      · by_cases e2 : x = 197
        · subst e2; decide
        · by_cases e3 : x = 7846
          · subst e3; decide
          · simp [e, e2, e3])
    subst hL
    refine ⟨?_, rfl, rfl⟩
    rw [h5]
    kernel_rfl
def glN : Int → List Int := fun r => if r = 7846 then [65, 768, 769] else if r = 192 then [65, 768] else [r]
theorem glN_is {fl : Int → List Int} (h : FullE rdN fl) : fl 7846 = glN 7846 ∧ fl 192 = glN 192 ∧ fl 65 = glN 65 ∧ fl 66 = glN 66 ∧ fl 768 = glN 768 ∧ fl 769 = glN 769 ∧ fl 807 = glN 807 := by
  have one : ∀ r, dcpV rdN r = [] → fl r = [r] := fun r hr => by rw [h.eq r, if_pos hr]
  have a1 := one 65 (by kernel_rfl)
  have a2 := one 66 (by kernel_rfl)
  have a3 := one 768 (by kernel_rfl)
  have a4 := one 769 (by kernel_rfl)
  have a5 := one 807 (by kernel_rfl)
  have d1 : dcpV rdN 192 = [65, 768] := by kernel_rfl
  have d2 : dcpV rdN 7846 = [192, 769] := by kernel_rfl
  have b1 : fl 192 = [65, 768] := by
    rw [h.eq 192, d1, if_neg (by decide)]
    show fl 65 ++ (fl 768 ++ []) = _
    rw [a1, a3]; rfl
  have b2 : fl 7846 = [65, 768, 769] := by
    rw [h.eq 7846, d2, if_neg (by decide)]
    show fl 192 ++ (fl 769 ++ []) = _
    rw [b1, a4]; rfl
  exact ⟨b2, b1, a1, a2, a3, a4, a5⟩
theorem v_d1 : barP (decR rdN glN [7846, 807]) = [65, 807, 768, 769] := by kernel_rfl
theorem v_c1 : joinP (cmpV (mdOf rdN [192, 197, 7846])) (decR rdN glN [65, 807, 768]) = [192, 807] := by kernel_rfl
theorem v_w1 : barP (ordL [] ((fulR rdN glN [65, 768]).take (doneR [] (fulR rdN glN [65, 768])).length)) = [65] := by kernel_rfl
theorem v_t1 : barP (decR rdN glN [192]) = [65, 768] := by kernel_rfl
theorem v_p1 : pts ⟨#[195, 128]⟩ = [192] := by kernel_rfl
theorem v_p2 : (⟨(textP [65, 768]).toArray⟩ : ByteArray) = ⟨#[65, 204, 128]⟩ := by kernel_rfl
end Go.Proofs.YtcfhblbmpbfoaaaGreatDoor
namespace Go.Proofs.YtcfhblbmpbfoaaaGreatDoor
open Go Go.RowKit Go.Kt Go.Kt.Sg Go.Shelf Go.Lib Go.Kt.Rg Go.Maps Go.Kt.Bits

def NEnv (w : World) : Prop := PEnv w ∧ Lib.Utf8Tabs 3 4 w ∧ 5 ≤ w.heap.size
theorem NEnv.below {A B : World} (h : NEnv A) (hb : Below A.heap.size A B) : NEnv B := ⟨h.1.below hb, tabs_below h.2.1 h.2.2 hb, Nat.le_trans h.2.2 hb.size⟩
theorem sl_fresh (W : World) (l : List Int) (n : Nat) (hn : l.length = n) : Sl .i32 (W.alloc (.cells (encZ l).toArray 21)) (.slice (some ⟨W.heap.size, 0, none⟩) n n) l := by
  subst hn
  refine ⟨_, _, rfl, .inr ⟨W.heap.size, 0, rfl, fun i x hx => ?_⟩⟩
  rw [Lib.cell_of_heap (World.alloc_heap_new W _), Nat.zero_add]
  simp [encZ, List.getElem?_map, hx]
theorem same_made {A : World} {v : Value} {l : List Int} (h : Sl .i32 A v l) (n : Nat) (hn : l.length = n) (hz : n ≤ 100) (W : World) (hb : Below A.heap.size A W) :
    Calls Tryz.prog 17 #[v, .slice (some ⟨W.heap.size, 0, none⟩) n n] (W.alloc (.cells (encZ l).toArray 21)) fun e w' => e = .returned (.bool true) ∧ Below A.heap.size A w' := by
  have hb2 : Below A.heap.size A (W.alloc (.cells (encZ l).toArray 21)) := hb.alloc hb.size _
  refine (sameRunes_any v _ l l _ (h.below hb2) (sl_fresh W l n hn) (by omega) (by omega)).mono ?_
  rintro e w' ⟨he, hd⟩
  exact ⟨by rw [he]; simp, hb2.trans (hd.below.mono hb2.size)⟩
theorem i32_lit {l : List Int} (h : l.all (fun r => decide (-2147483648 ≤ r) && decide (r ≤ 2147483647)) = true) : ∀ r ∈ l, I32 r := fun r hr => by
  have := List.all_eq_true.1 h r hr
  simp only [Bool.and_eq_true, decide_eq_true_eq] at this
  exact this
theorem v_w3 : (fulR rdN glN [65, 768]).drop (doneR [] (fulR rdN glN [65, 768])).length = [(768, 230)] := by kernel_rfl
theorem v_w4 : barP (ordL [] [(768, 230)]) = [768] := by kernel_rfl

set_option maxRecDepth 100000 in
set_option maxHeartbeats 4000000 in
theorem nworks (w : World) (hE : NEnv w) : Calls Tryz.prog 11 #[] w fun e w' => e = .returned (.bool true) ∧ Below w.heap.size w w' := by
  have CP := Lib.hid (pParse ⟨fileN.toArray⟩ w hE.1)
  have HE := Lib.hid hE
  clear hE
  go_enter Tryz.func11, Tryz.ntmps11
  go_wp2_with fail
  refine CP.out.mono ?_
  rintro e w1 ⟨no, line, S, L, hP, hb1, hor⟩
  obtain ⟨h0, rfl, rfl⟩ := fileN_only hP
  obtain ⟨g, rfl, hW1⟩ : ∃ g, e = .returned (.tuple #[.pointer (some ⟨g, 0, none⟩), .nilIface]) ∧ PrW g rdN (mdOf rdN [192, 197, 7846]) w1 := by
    rcases hor with ⟨_, g, h1, h2⟩ | ⟨h1, _⟩
    · exact ⟨g, h1, h2⟩
    · exact absurd h0 h1
  subst h0
  obtain ⟨_, _, hS, hp, _⟩ := hP.ok
  obtain ⟨fl, hN⟩ := prn_parse hP
  obtain ⟨f1, f2, f3, f4, f5, f6, f7⟩ := glN_is hN.fe
  have E1 := HE.out.below (hb1.mono (Nat.le_refl _))
  have CD : Hid (∀ W v, Below w1.heap.size w1 W → Sl .i32 W v [7846, 807] → Calls Tryz.prog 13 #[.pointer (some ⟨g, 0, none⟩), v] W fun e w' => NewZ W.heap.size [65, 807, 768, 769] e w' ∧ Below W.heap.size W w') := Lib.hid fun W v hb hv => by
    have := nDecompose hN W (hW1.below hb) v _ hv.toG (i32_lit rfl) (by decide)
    unfold decR at this
    rw [fulR_same (gl := glN) (by intro r hr; simp only [List.mem_cons, List.not_mem_nil, or_false] at hr; rcases hr with rfl | rfl <;> assumption)] at this
    rw [show barP (ordL [] (fulR rdN glN [7846, 807])) = [65, 807, 768, 769] from v_d1] at this
    exact this
  have CC : Hid (∀ W v, Below w1.heap.size w1 W → Sl .i32 W v [65, 807, 768] → Calls Tryz.prog 14 #[.pointer (some ⟨g, 0, none⟩), v] W fun e w' => NewZ W.heap.size [192, 807] e w' ∧ Below W.heap.size W w') := Lib.hid fun W v hb hv => by
    have := nCompose hN (full_i32 hN) (fun a b r h => (cmp_ok hS hp h).2.1) W (hW1.below hb) v _ hv.toG (i32_lit rfl) (by decide)
    unfold decR at this
    rw [fulR_same (gl := glN) (by intro r hr; simp only [List.mem_cons, List.not_mem_nil, or_false] at hr; rcases hr with rfl | rfl | rfl <;> assumption)] at this
    rw [show joinP (cmpV (mdOf rdN [192, 197, 7846])) (ordL [] (fulR rdN glN [65, 807, 768])) = [192, 807] from v_c1] at this
    exact this
  have CW : Hid (∀ W v gs H, Below w1.heap.size w1 W → StM g gs H [] (.slice none 0 0) W → H ≤ W.heap.size → Sl .i32 W v [65, 768] → Calls Tryz.prog 27 #[.pointer (some ⟨gs, 0, none⟩), v] W (TakeO g gs H [65] [(768, 230)] (fun b => b = gs) W)) := Lib.hid fun W v gs H hb hs hH hv => by
    have := nWrite0 hN W (hW1.below hb) hs hH v _ hv.toG (i32_lit rfl) (by decide)
    rw [fulR_same (gl := glN) (by intro r hr; simp only [List.mem_cons, List.not_mem_nil, or_false] at hr; rcases hr with rfl | rfl <;> assumption), v_w1, v_w3] at this
    exact this
  have CT : Hid (∀ W, Below w1.heap.size w1 W → Calls Tryz.prog 23 #[.pointer (some ⟨g, 0, none⟩), .string ⟨#[195, 128]⟩, .bool false] W fun e w' => e = .returned (.string ⟨#[65, 204, 128]⟩) ∧ Below W.heap.size W w') := Lib.hid fun W hb => by
    have e1 : barP (decR rdN fl (pts ⟨#[195, 128]⟩)) = [65, 768] := by
      rw [v_p1]
      unfold decR
      rw [fulR_same (gl := glN) (by intro r hr; simp only [List.mem_cons, List.not_mem_nil, or_false] at hr; rcases hr with rfl; assumption)]
      exact v_t1
    have hE2 := E1.below hb
    have := nTextD hN W (hW1.below hb) hE2.2.1 hE2.2.2 ⟨#[195, 128]⟩ (by decide) (by rw [e1]; decide +kernel)
    rw [e1, v_p2] at this
    exact this
  have CK : Hid (∀ W v y z, Below w1.heap.size w1 W → Sl .i32 W v [65, y] → I32 y → fl y = [y] → (clsV rdN y == 0) = z → Calls Tryz.prog 18 #[.pointer (some ⟨g, 0, none⟩), v, .int .i64 1] W fun e w' => e = .returned (.bool z) ∧ Below W.heap.size W w') := Lib.hid fun W v y z hb hv hy hf hz => by
    have := nCut hN W (hW1.below hb) v _ hv.toG (fun r hr => (List.mem_cons.1 hr).elim (fun e => by rw [e]; exact ⟨by omega, by omega⟩) (fun h => by rw [List.mem_singleton.1 h]; exact hy)) (by simp) 1
    rw [show cutP rdN fl [65, y] 1 = (clsV rdN ((fl y).head?.getD 0) == 0) from rfl, hf] at this
    rw [← hz]
    exact this
  have HB1 := Lib.hid hb1
  have F66 := Lib.hid f4
  have F768 := Lib.hid f5
  clear hP hb1 hor hW1 E1 f1 f2 f3 f4 f5 f6 f7 hN hS hp
  go_wp2_with fail
  have a2 : Below w1.heap.size w1 (w1.alloc (.cells (encZ [7846, 807]).toArray 21)) := (Below.refl _ _).alloc (Nat.le_refl _) _
  refine (CD.out _ _ a2 (sl_fresh w1 [7846, 807] 2 rfl)).mono ?_
  rintro e w3 ⟨hd, hb3⟩
  obtain ⟨vd, rfl, hsd⟩ := hd.sl
  have B3 := Lib.hid (And.intro (a2.trans (hb3.mono a2.size)) hsd)
  clear hd hb3 a2 hsd
  go_wp2_with fail
  have a4 : Below w3.heap.size w3 (w3.alloc (.cells (encZ [65, 807, 768]).toArray 21)) := (Below.refl _ _).alloc (Nat.le_refl _) _
  refine (CC.out _ _ (B3.out.1.trans (a4.mono B3.out.1.size)) (sl_fresh w3 [65, 807, 768] 3 rfl)).mono ?_
  rintro e w5 ⟨hd, hb5⟩
  obtain ⟨vc, rfl, hsc⟩ := hd.sl
  have b35 : Below w3.heap.size w3 w5 := a4.trans (hb5.mono a4.size)
  have B5 := Lib.hid (And.intro (B3.out.1.trans (b35.mono B3.out.1.size)) (And.intro (B3.out.2.below b35) hsc))
  clear hd hb5 a4 hsc b35 B3
  go_wp2_with fail
  refine (nNew g w5).mono ?_
  rintro e w6 ⟨gs, rfl, hgs, hst, hb6⟩
  have B6 := Lib.hid (And.intro hst (And.intro hb6 hgs))
  clear hst hb6 hgs
  go_wp2_with fail
  have a7 : Below w6.heap.size w6 (w6.alloc (.cells (encZ [65, 768]).toArray 21)) := (Below.refl _ _).alloc (Nat.le_refl _) _
  have b57 := B6.out.2.1.trans (a7.mono B6.out.2.1.size)
  refine (CW.out _ _ gs w5.heap.size (B5.out.1.trans (b57.mono B5.out.1.size)) (B6.out.1.below a7) b57.size (sl_fresh w6 [65, 768] 2 rfl)).mono ?_
  rintro e w8 ⟨M, v8, m1, m2, hz8, hs8, hv8, hk8⟩
  obtain ⟨vw, hew, hsw⟩ := hz8.sl
  have b58 : Below w5.heap.size w5 w8 := b57.trans (hk8.below b57.size fun b hb => by rw [hb]; exact B6.out.2.2)
  have B8 := Lib.hid (And.intro b58 (And.intro hs8 (And.intro hv8 (And.intro m2 (And.intro m1 hz8)))))
  subst hew
  clear hz8 hs8 hv8 hk8 a7 b57 m1 m2 hsw b58
  go_wp2_with fail
  refine (nEnd w8 B8.out.2.1 B8.out.1.size (by simp)).mono ?_
  rintro e w9 ⟨M9, v9, m1, m2, hz9, hs9, hv9, hk9⟩
  rw [v_w4] at hz9
  obtain ⟨vx, rfl, hsx⟩ := hz9.sl
  have hgl : gs < M := by have h1 := B6.out.1.gl; have h2 := B8.out.2.2.2.2.1; rw [World.size_alloc] at h2; omega
  have b59 : Below w5.heap.size w5 w9 := B8.out.1.trans (hk9.below B8.out.1.size fun b hb => hb.elim (fun e => by rw [e]; exact B6.out.2.2) fun h => (B8.out.2.1.own_lt b h).1)
  have b19 : Below w1.heap.size w1 w9 := B5.out.1.trans (b59.mono B5.out.1.size)
  have hsw : Sl .i32 w9 vw [65] := by
    obtain ⟨aw, cw, ew, how⟩ := B8.out.2.2.2.2.2
    have : NewZ M [65] (.returned vw) w9 := ⟨aw, cw, ew, how.keep hk9 fun b hb hm => by
      rcases hb with hb | hb
      · omega
      · have := B8.out.2.2.1 b hb; omega⟩
    obtain ⟨v, hv, hs⟩ := this.sl
    injection hv with hv
    rw [hv]
    exact hs
  have D1 := Lib.hid (same_made (B5.out.2.1.below b59) 4 rfl (by omega))
  have D2 := Lib.hid (same_made (B5.out.2.2.below b59) 2 rfl (by omega))
  have D3 := Lib.hid (same_made hsw 1 rfl (by omega))
  have D4 := Lib.hid (same_made hsx 1 rfl (by omega))
  have B9 := Lib.hid b19
  clear hgl b59 b19 hsw hsx hz9 hs9 hv9 hk9 m1 m2 B8 B6 B5 CD CC CW
  go_wp2_with fail
  refine (D1.out w9 (Below.refl _ _)).mono ?_
  rintro e x1 ⟨rfl, hx1⟩
  go_wp2_with fail
  refine (D2.out x1 hx1).mono ?_
  rintro e x2 ⟨rfl, hx2⟩
  clear hx1
  go_wp2_with fail
  refine (D3.out x2 hx2).mono ?_
  rintro e x3 ⟨rfl, hx3⟩
  clear hx2
  go_wp2_with fail
  refine (D4.out x3 hx3).mono ?_
  rintro e x4 ⟨rfl, hx4⟩
  have X4 := Lib.hid (B9.out.trans (hx4.mono B9.out.size))
  clear hx3 hx4 D1 D2 D3 D4
  go_wp2_with fail
  refine (CT.out x4 X4.out).mono ?_
  rintro e x5 ⟨rfl, hx5⟩
  have X5 := Lib.hid (X4.out.trans (hx5.mono X4.out.size))
  have n1 : (ByteArray.toList ⟨#[65, 204, 128]⟩ == ByteArray.toList ⟨#[65, 204, 128]⟩) = true := by simp
  clear hx5 X4 CT
  go_wp2_with fail
  have a6 : Below x5.heap.size x5 (x5.alloc (.cells (encZ [65, 66]).toArray 21)) := (Below.refl _ _).alloc (Nat.le_refl _) _
  refine (CK.out _ _ 66 true (X5.out.trans (a6.mono X5.out.size)) (sl_fresh x5 [65, 66] 2 rfl) ⟨by omega, by omega⟩ F66.out (by kernel_rfl)).mono ?_
  rintro e x7 ⟨rfl, hx7⟩
  have X7 := Lib.hid (X5.out.trans ((a6.trans (hx7.mono a6.size)).mono X5.out.size))
  clear hx7 a6 X5 n1
  go_wp2_with fail
  have a8 : Below x7.heap.size x7 (x7.alloc (.cells (encZ [65, 768]).toArray 21)) := (Below.refl _ _).alloc (Nat.le_refl _) _
  refine (CK.out _ _ 768 false (X7.out.trans (a8.mono X7.out.size)) (sl_fresh x7 [65, 768] 2 rfl) ⟨by omega, by omega⟩ F768.out (by kernel_rfl)).mono ?_
  rintro e x9 ⟨rfl, hx9⟩
  have X9 := Lib.hid (X7.out.trans ((a8.trans (hx9.mono a8.size)).mono X7.out.size))
  clear hx9 a8 X7 CK
  go_wp2
  go_ret
  exact ⟨rfl, HB1.out.trans (X9.out.mono HB1.out.size)⟩
end Go.Proofs.YtcfhblbmpbfoaaaGreatDoor
namespace Go.Proofs.YtcfhblbmpbfoaaaGreatDoor
open Go Go.RowKit Go.Kt Go.Kt.Sg Go.Shelf Go.Lib Go.Kt.Rg Go.Maps Go.Kt.Bits

theorem run_append_owned_none7 {w : World} {base : Nat} {P : Program} (t ty e : TypeId) (i : TypeInfo) (size : Nat) (ht : P.underlying t = some (.slice e)) (hi : P.info? e = some i)
    (v : Value) (n : Nat) (xs : List Value) (hown : w.ownsRow base e size v n xs) (c : Nat) :
    (Builtin.append_ #[t, t] ty #[v, .slice none 0 c]).run P w = .ok v w := by
  rcases hown.2 with ⟨rfl, rfl⟩ | ⟨g, cap, cur, rfl, _, _, hnc, _⟩
  · simp [Builtin.append_, run_underlying ht, sizeOf, typeInfo, hi, Builtin.lenOf, Builtin.firstCells]
  · simp [Builtin.append_, run_underlying ht, sizeOf, typeInfo, hi, Builtin.lenOf, Builtin.firstCells, hnc, storeCells]
theorem app_slg {B : Nat} {v x : Value} {l m : List Int} {W : World} (hown : OwnS (fun b => B ≤ b) 21 1 v l.length (encZ l) W) (hBW : B ≤ W.heap.size) (hS : Slg .i32 W x m) (hn : l.length + m.length ≤ 35184372087808) :
    ∃ ao cap w', (∀ ty, (Builtin.append_ #[22, 22] ty #[v, x]).run Tryz.prog W = .ok (.slice ao (l ++ m).length cap) w') ∧ OwnS (fun b => B ≤ b) 21 1 (.slice ao (l ++ m).length cap) (l ++ m).length (encZ (l ++ m)) w' ∧ Keep (fun b => v.ownBlock = some b) W w' := by
  obtain ⟨i, hi, hz, hs1, hb1⟩ := info_parts tinfoI32
  obtain ⟨ao, cap, rfl, h⟩ := hS
  have fin : ∀ v' w', (∀ ty, (Builtin.append_ #[22, 22] ty #[v, .slice ao m.length cap]).run Tryz.prog W = .ok v' w') → OwnS (fun b => B ≤ b) 21 1 v' (l ++ m).length (encZ (l ++ m)) w' → Keep (fun b => v.ownBlock = some b) W w' →
      ∃ a2 c2 w', (∀ ty, (Builtin.append_ #[22, 22] ty #[v, .slice ao m.length cap]).run Tryz.prog W = .ok (.slice a2 (l ++ m).length c2) w') ∧ OwnS (fun b => B ≤ b) 21 1 (.slice a2 (l ++ m).length c2) (l ++ m).length (encZ (l ++ m)) w' ∧ Keep (fun b => v.ownBlock = some b) W w' := fun v' w' h1 h2 h3 => by
    obtain ⟨a2, c2, rfl⟩ := own_slc h2
    exact ⟨a2, c2, w', h1, h2, h3⟩
  cases ao with
  | none =>
    have hm : m = [] := by
      rcases h with h | ⟨g, e, _⟩
      · exact h
      · cases e
    subst hm
    refine fin v W (fun ty => run_append_owned_none7 _ ty _ i 1 Tryz.underlying22 hi v _ _ hown.1 cap) ?_ (Keep.refl _ _)
    rw [List.append_nil]; exact hown
  | some a =>
    have hcell : ∀ j u, (encZ m)[j]? = some u → W.cell? (a.add j) = some u := by
      intro j u hj
      have hjl : j < m.length := by
        have := (List.getElem?_eq_some_iff.1 hj).1
        simpa [encZ] using this
      rcases h with h | ⟨g, e, h⟩
      · subst h; cases hjl
      · obtain rfl := Option.some.inj e
        rw [h j _ (List.getElem?_eq_getElem hjl), ← hj]
        simp [encZ, List.getElem?_eq_getElem hjl]
    obtain ⟨v', w', hrun, r1, r2, _⟩ := run_append_own (P := Tryz.prog) W B 22 0 21 i _ 1 4 Tryz.underlying22 hi hz hs1 hb1 rfl (by decide) v l.length (encZ l) (own_base hown (fun _ h => h)) a m.length cap (encZ m) (by simp [encZ]) hcell
      (by intro u hu; simp [encZ] at hu; obtain ⟨a, _, rfl⟩ := hu; rfl) (by unfold maxLen; omega) (by omega) hBW
    refine fin v' w' (fun ty => hrun) ?_ (keep_grown r2)
    have e : encZ (l ++ m) = encZ l ++ encZ m := by unfold encZ; rw [List.map_append]
    rw [List.length_append, e]
    exact own_of_base r1
set_option maxRecDepth 100000 in
set_option maxHeartbeats 1000000 in
theorem njoined2 (w : World) (v1 v2 : Value) (l m : List Int) (h1 : Slg .i32 w v1 l) (h2 : Slg .i32 w v2 m) (hz : l.length + m.length ≤ 4294967296) :
    Calls Tryz.prog 31 #[v1, v2] w fun e w' => NewZ w.heap.size (l ++ m) e w' ∧ Below w.heap.size w w' := by
  obtain ⟨a3, c3, w3, hrun3, ho3, hk3⟩ := app_slg (B := w.heap.size) (l := []) (m := l) (v := .slice none 0 0) (own_nil _ _ _ _) (Nat.le_refl _) h1 (by simp; omega)
  rw [List.nil_append] at hrun3 ho3
  have hb3 : Below w.heap.size w w3 := hk3.below (Nat.le_refl _) (fun b hb => by cases hb)
  obtain ⟨a4, c4, w4, hrun4, ho4, hk4⟩ := app_slg (m := m) ho3 hb3.size (h2.below hb3) (by omega)
  have hb4 : Below w.heap.size w w4 := hb3.trans (hk4.below hb3.size fun b hb => ho3.2 b hb)
  have HO := Lib.hid (And.intro ho4 hb4)
  obtain ⟨b1, d1, rfl, _⟩ := h1
  obtain ⟨b2, d2, rfl, _⟩ := h2
  have HR1 := Lib.hid hrun3
  have HR2 := Lib.hid hrun4
  clear hrun3 hrun4 ho3 ho4 hk3 hk4 hb3 hb4
  go_enter Tryz.func31, Tryz.ntmps31
  go_wp2_with (first | (at_builtin; refine wpList_append_eq rfl rfl rfl rfl HR1.out ?_) | (at_builtin; refine wpList_append_eq rfl rfl rfl rfl HR2.out ?_) | fail)
  go_ret
  exact ⟨⟨a4, c4, by rw [List.length_append]; rfl, HO.out.1⟩, HO.out.2⟩
theorem fulR_app {S : RdS} {fl : Int → List Int} (a b : List Int) : fulR S fl (a ++ b) = fulR S fl a ++ fulR S fl b := by unfold fulR; rw [List.flatMap_append]
theorem cut_math {S : RdS} {fl : Int → List Int} (hF : FullE S fl) {l : List Int} {i : Nat} (hi : i ≤ l.length) (h : cutP S fl l i = true) : barP (decR S fl (l.take i)) ++ barP (decR S fl (l.drop i)) = barP (decR S fl l) := by
  have hl : fulR S fl l = fulR S fl (l.take i) ++ fulR S fl (l.drop i) := by rw [← fulR_app, List.take_append_drop]
  unfold decR barP
  rw [← List.map_append, hl]
  congr 1
  unfold cutP at h
  rw [if_neg (by omega)] at h
  by_cases h1 : (i : Int) = 0 ∨ (i : Int) = (l.length : Int)
  · rcases h1 with h1 | h1
    · obtain rfl : i = 0 := by omega
      rw [List.take_zero]; rfl
    · obtain rfl : i = l.length := by omega
      rw [List.drop_length]
      show ordL [] _ ++ ordL [] [] = ordL [] (_ ++ [])
      rw [List.append_nil]
      exact List.append_nil _
  · rw [if_neg h1, Int.toNat_natCast] at h
    have hlt : i < l.length := by omega
    rw [List.drop_eq_getElem_cons hlt]
    rw [List.getElem?_eq_getElem hlt, Option.getD_some] at h
    have hc : fulR S fl (l[i] :: l.drop (i + 1)) = pcR S fl l[i] ++ fulR S fl (l.drop (i + 1)) := by unfold fulR; rw [List.flatMap_cons]
    rw [hc]
    unfold pcR
    have h2 := (hF.len l[i]).1
    cases hq : fl l[i] with
    | nil => rw [hq] at h2; simp at h2
    | cons x t =>
      rw [hq] at h
      simp only [List.head?_cons, Option.getD_some, beq_iff_eq] at h
      rw [List.map_cons, List.cons_append]
      exact (ordL_cut (x := (x, clsV S x)) h _ _ []).symm
theorem cut_ends {S : RdS} {fl : Int → List Int} {l : List Int} {i : Nat} (hi : i ≤ l.length) (h : cutP S fl l i = false) : ¬ (i : Int) = 0 ∧ ¬ (i : Int) = (l.length : Int) := by
  unfold cutP at h
  rw [if_neg (by omega)] at h
  by_cases h1 : (i : Int) = 0 ∨ (i : Int) = (l.length : Int)
  · rw [if_pos h1] at h; cases h
  · exact ⟨fun e => h1 (.inl e), fun e => h1 (.inr e)⟩
theorem add_add (a : Addr) (i j : Nat) : (a.add i).add j = a.add (i + j) := by
  unfold Addr.add
  by_cases hi : i = 0
  · subst hi; simp
  · by_cases hj : j = 0
    · subst hj; simp
    · rw [if_neg hi, if_neg hj, if_neg (by omega), Nat.add_assoc]
theorem slg_take {W : World} {ad : Option Addr} {n cap : Nat} {l : List Int} (h : Slg .i32 W (.slice ad n cap) l) (i : Nat) (hi : i ≤ l.length) (c : Nat) : Slg .i32 W (.slice ad i c) (l.take i) := by
  obtain ⟨a, c2, e, h⟩ := h
  injection e with e1 e2 e3
  subst e1
  refine ⟨ad, c, by rw [List.length_take, Nat.min_eq_left hi], ?_⟩
  rcases h with h | ⟨g, e, h⟩
  · left; rw [h, List.take_nil]
  · refine .inr ⟨g, e, fun j x hx => ?_⟩
    rw [List.getElem?_take] at hx
    split at hx
    · exact h j x hx
    · cases hx
theorem slg_drop {W : World} {ga : Addr} {n cap : Nat} {l : List Int} (h : Slg .i32 W (.slice (some ga) n cap) l) (i m : Nat) (hm : l.length - i = m) (c : Nat) : Slg .i32 W (.slice (some (ga.add i)) m c) (l.drop i) := by
  obtain ⟨a, c2, e, h⟩ := h
  injection e with e1 e2 e3
  subst e1
  refine ⟨some (ga.add i), c, by rw [List.length_drop, hm], ?_⟩
  rcases h with h | ⟨g, e, h⟩
  · left; rw [h, List.drop_nil]
  · refine .inr ⟨_, rfl, fun j x hx => ?_⟩
    rw [List.getElem?_drop] at hx
    injection e with e
    subst e
    rw [add_add]
    exact h (i + j) x hx
end Go.Proofs.YtcfhblbmpbfoaaaGreatDoor
namespace Go.Proofs.YtcfhblbmpbfoaaaGreatDoor
open Go Go.RowKit Go.Kt Go.Kt.Sg Go.Shelf Go.Lib Go.Kt.Rg Go.Maps Go.Kt.Bits
variable {md : MdT}
theorem errP_ifc7 (no line : Nat) : ∃ t v, errP no line = .iface t v := by
  unfold errP
  split
  · exact ⟨_, _, rfl⟩
  · exact ⟨_, _, rfl⟩
theorem bar_len {S : RdS} {fl : Int → List Int} (hF : FullE S fl) (l : List Int) : (barP (decR S fl l)).length ≤ l.length * 8 := by
  have := fulR_len hF l
  unfold barP decR
  rw [List.length_map, ordL_len]
  simp only [List.length_nil]
  omega
set_option maxRecDepth 100000 in
set_option maxHeartbeats 4000000 in
theorem ncuts_c (f : ByteArray) (ad : Option Addr) (n cap : Nat) (l : List Int) (w : World) (hE : NEnv w) (hS : Slg .i32 w (.slice ad n cap) l) (hr : ∀ r ∈ l, I32 r) (hn : l.length = n) (hcap : n ≤ cap) (hcm : cap ≤ 9223372036854775807) (hnil : ad = none → cap = 0) :
    Calls Tryz.prog 7 #[.string f, .slice ad n cap] w fun e w' => e = .returned (.bool true) ∧ Below w.heap.size w w' := by
  have CP := Lib.hid (pParse f w hE.1)
  have CW : Hid (∀ W, Below w.heap.size w W → Calls Tryz.prog 11 #[] W fun e w' => e = .returned (.bool true) ∧ Below w.heap.size w w') := Lib.hid fun W hb =>
    (nworks W (hE.below hb)).mono fun e w' ⟨h1, h2⟩ => ⟨h1, hb.trans (h2.mono hb.size)⟩
  have HS := Lib.hid (And.intro hS (And.intro hr hn))
  clear hE hS hr hn
  go_enter Tryz.func7, Tryz.ntmps7
  go_wp2_with fail
  refine CP.out.mono ?_
  rintro e w1 ⟨no, line, S, L, hP, hb1, ⟨rfl, g, rfl, hW⟩ | ⟨h0, rfl⟩⟩
  · obtain ⟨fl, hN⟩ := prn_parse hP
    have HW := Lib.hid (And.intro hN (And.intro hW hb1))
    clear hP hN hW hb1 CP
    by_cases hbig : 300 < n
    · have h1 : (300 : Int) < (n : Int) := by omega
      go_wp2_with fail
      refine (CW.out w1 HW.out.2.2).mono ?_
      rintro e w2 ⟨rfl, hb2⟩
      have H2 := Lib.hid hb2
      clear hb2
      go_wp2
      go_ret
      exact ⟨rfl, H2.out⟩
    · have h1 : ¬ (300 : Int) < (n : Int) := by omega
      have CD : Hid (∀ W v (m : List Int), Below w.heap.size w W → Below w1.heap.size w1 W → Slg .i32 W v m → (∀ r ∈ m, I32 r) → m.length ≤ 300 → Calls Tryz.prog 13 #[.pointer (some ⟨g, 0, none⟩), v] W fun e w' => NewZ W.heap.size (barP (decR S fl m)) e w' ∧ Below W.heap.size W w') := Lib.hid fun W v m _ hb hv hm hz =>
        nDecompose HW.out.1 W (HW.out.2.1.below hb) v m hv hm (by omega)
      have CK : Hid (∀ W (t : Int), Below w1.heap.size w1 W → Slg .i32 W (.slice ad n cap) l → Calls Tryz.prog 18 #[.pointer (some ⟨g, 0, none⟩), .slice ad n cap, .int .i64 t] W fun e w' => e = .returned (.bool (cutP S fl l t)) ∧ Below W.heap.size W w') := Lib.hid fun W t hb hv =>
        nCut HW.out.1 W (HW.out.2.1.below hb) _ l hv HS.out.2.1 (by have := HS.out.2.2; omega) t
      go_wp2_with fail
      refine (CD.out w1 _ l HW.out.2.2 (Below.refl _ _) (HS.out.1.below HW.out.2.2) HS.out.2.1 (by have := HS.out.2.2; omega)).mono ?_
      rintro e w2 ⟨hz, hb2⟩
      obtain ⟨vd, rfl, hsd⟩ := hz.sl
      have H2 := Lib.hid (And.intro hsd (And.intro hb2 (HW.out.2.2.trans (hb2.mono HW.out.2.2.size))))
      clear hz hb2 hsd
      go_wp2_with fail
      go_loopg [8] (n + 1) (fun kx s wr => ∃ i : Nat, s = .int .i64 i ∧ i ≤ n + 1 ∧ n + 1 - i ≤ kx ∧ Hid (Below w2.heap.size w2 wr))
      case atStart => exact ⟨0, rfl, Nat.zero_le _, Nat.le_refl _, Lib.hid (Below.refl _ _)⟩
      case round =>
        obtain ⟨i, rfl, hin, hkx, hB⟩ := hrel
        by_cases hlt : i ≤ n
        · have hle : (i : Int) ≤ (n : Int) := by omega
          have b1 : Below w1.heap.size w1 wr := H2.out.2.1.trans (hB.out.mono H2.out.2.1.size)
          have b0 : Below w.heap.size w wr := H2.out.2.2.trans (hB.out.mono H2.out.2.2.size)
          have hSr := HS.out.1.below b0
          have CQ := Lib.hid (CK.out wr i b1 hSr)
          have HB := Lib.hid (And.intro b1 (And.intro b0 hSr))
          clear b1 b0 hSr
          go_wp2_with fail
          refine CQ.out.mono ?_
          rintro e w3 ⟨rfl, hb3⟩
          have H3 := Lib.hid hb3
          clear hb3 CQ
          cases hcut : cutP S fl l i with
          | false =>
            obtain ⟨z1, z2⟩ := cut_ends (by rw [HS.out.2.2]; exact hlt) hcut
            have q1 : ((i : Int) == 0) = false := by simp only [beq_eq_false_iff_ne, ne_eq]; exact z1
            have q2 : ((i : Int) == (n : Int)) = false := by simp only [beq_eq_false_iff_ne, ne_eq]; rw [← HS.out.2.2]; exact z2
            clear z1 z2
            go_wp2
            go_roundg (n + 1 - (i + 1))
            case measure => omega
            case rel => exact ⟨i + 1, by simp, by omega, Nat.le_refl _, Lib.hid (hB.out.trans (H3.out.mono hB.out.size))⟩
          | true =>
            have hci : i ≤ cap := by omega
            cases ad with
            | none =>
              have c0 := hnil rfl
              subst c0
              obtain rfl : n = 0 := by omega
              obtain rfl : i = 0 := by omega
              have T1 := Lib.hid (slg_take (HB.out.2.2.below H3.out) 0 (Nat.zero_le _) 0)
              have T2 := Lib.hid (show Slg .i32 w3 (.slice none 0 0) (l.drop 0) from ⟨none, 0, by rw [List.length_drop, HS.out.2.2], .inl (List.eq_nil_of_length_eq_zero (by rw [List.length_drop, HS.out.2.2]))⟩)
              have hb03 : Below w.heap.size w w3 := HB.out.2.1.trans (H3.out.mono HB.out.2.1.size)
              have hb13 : Below w1.heap.size w1 w3 := HB.out.1.trans (H3.out.mono HB.out.1.size)
              have B3 := Lib.hid (And.intro hb03 hb13)
              clear hb03 hb13
              go_wp2_with fail
              refine (CD.out w3 _ (l.take 0) B3.out.1 B3.out.2 T1.out (fun r hr => HS.out.2.1 r (List.mem_of_mem_take hr)) (by rw [List.length_take]; have := HS.out.2.2; omega)).mono ?_
              rintro e w4 ⟨hz, hb4⟩
              obtain ⟨va, rfl, hsa⟩ := hz.sl
              have B4 := Lib.hid (And.intro hsa (And.intro hb4 (T2.out.below hb4)))
              clear hz hsa hb4
              go_wp2_with fail
              refine (CD.out w4 _ (l.drop 0) (B3.out.1.trans (B4.out.2.1.mono B3.out.1.size)) (B3.out.2.trans (B4.out.2.1.mono B3.out.2.size)) B4.out.2.2 (fun r hr => HS.out.2.1 r (List.mem_of_mem_drop hr)) (by rw [List.length_drop]; have := HS.out.2.2; omega)).mono ?_
              rintro e w5 ⟨hz, hb5⟩
              obtain ⟨vb, rfl, hsb⟩ := hz.sl
              have l1 := bar_len HW.out.1.fe (l.take 0)
              have l2 := bar_len HW.out.1.fe (l.drop 0)
              have l3 := bar_len HW.out.1.fe l
              have hln := HS.out.2.2
              rw [List.length_take] at l1
              rw [List.length_drop] at l2
              have CJ := Lib.hid (njoined2 w5 va vb _ _ (B4.out.1.below hb5).toG hsb.toG (by omega))
              have B5 := Lib.hid (B4.out.2.1.trans (hb5.mono B4.out.2.1.size))
              clear hz hsb hb5
              go_wp2_with fail
              refine CJ.out.mono ?_
              rintro e w6 ⟨hz, hb6⟩
              rw [cut_math HW.out.1.fe (by omega) hcut] at hz
              obtain ⟨vj, rfl, hsj⟩ := hz.sl
              have b36 : Below w3.heap.size w3 w6 := B5.out.trans (hb6.mono B5.out.size)
              have b26 : Below w2.heap.size w2 w6 := hB.out.trans ((H3.out.trans (b36.mono H3.out.size)).mono hB.out.size)
              have CS := Lib.hid (sameRunes_any vj vd _ _ w6 hsj (H2.out.1.below b26) (by omega) (by omega))
              have B6 := Lib.hid b26
              clear hz hsj hb6 b36 b26 l1 l2 l3 CJ B5 B4 T1 T2
              go_wp2_with fail
              refine CS.out.mono ?_
              rintro e w7 ⟨he, hd⟩
              rw [decide_eq_true rfl] at he
              subst he
              have B7 := Lib.hid (B6.out.trans (hd.below.mono B6.out.size))
              clear hd B6 CS
              go_wp2
              go_roundg (0 + 1 - (0 + 1))
              case measure => omega
              case rel => exact ⟨0 + 1, by simp, by omega, Nat.le_refl _, B7⟩
            | some ga =>
              by_cases hce : cap = i
              · obtain rfl : n = i := by omega
                subst hce
                have T1 := Lib.hid (slg_take (HB.out.2.2.below H3.out) cap (by have := HS.out.2.2; omega) cap)
                have T2 := Lib.hid (show Slg .i32 w3 (.slice (some ga) 0 0) (l.drop cap) from ⟨some ga, 0, by rw [List.length_drop, HS.out.2.2, Nat.sub_self], .inl (List.eq_nil_of_length_eq_zero (by rw [List.length_drop, HS.out.2.2, Nat.sub_self]))⟩)
                have hb03 : Below w.heap.size w w3 := HB.out.2.1.trans (H3.out.mono HB.out.2.1.size)
                have hb13 : Below w1.heap.size w1 w3 := HB.out.1.trans (H3.out.mono HB.out.1.size)
                have B3 := Lib.hid (And.intro hb03 hb13)
                clear hb03 hb13
                go_wp2_with fail
                refine (CD.out w3 _ (l.take cap) B3.out.1 B3.out.2 T1.out (fun r hr => HS.out.2.1 r (List.mem_of_mem_take hr)) (by rw [List.length_take]; have := HS.out.2.2; omega)).mono ?_
                rintro e w4 ⟨hz, hb4⟩
                obtain ⟨va, rfl, hsa⟩ := hz.sl
                have B4 := Lib.hid (And.intro hsa (And.intro hb4 (T2.out.below hb4)))
                clear hz hsa hb4
                go_wp2_with fail
                refine (CD.out w4 _ (l.drop cap) (B3.out.1.trans (B4.out.2.1.mono B3.out.1.size)) (B3.out.2.trans (B4.out.2.1.mono B3.out.2.size)) B4.out.2.2 (fun r hr => HS.out.2.1 r (List.mem_of_mem_drop hr)) (by rw [List.length_drop]; have := HS.out.2.2; omega)).mono ?_
                rintro e w5 ⟨hz, hb5⟩
                obtain ⟨vb, rfl, hsb⟩ := hz.sl
                have l1 := bar_len HW.out.1.fe (l.take cap)
                have l2 := bar_len HW.out.1.fe (l.drop cap)
                have l3 := bar_len HW.out.1.fe l
                have hln := HS.out.2.2
                rw [List.length_take] at l1
                rw [List.length_drop] at l2
                have CJ := Lib.hid (njoined2 w5 va vb _ _ (B4.out.1.below hb5).toG hsb.toG (by omega))
                have B5 := Lib.hid (B4.out.2.1.trans (hb5.mono B4.out.2.1.size))
                clear hz hsb hb5
                go_wp2_with fail
                refine CJ.out.mono ?_
                rintro e w6 ⟨hz, hb6⟩
                rw [cut_math HW.out.1.fe (by omega) hcut] at hz
                obtain ⟨vj, rfl, hsj⟩ := hz.sl
                have b36 : Below w3.heap.size w3 w6 := B5.out.trans (hb6.mono B5.out.size)
                have b26 : Below w2.heap.size w2 w6 := hB.out.trans ((H3.out.trans (b36.mono H3.out.size)).mono hB.out.size)
                have CS := Lib.hid (sameRunes_any vj vd _ _ w6 hsj (H2.out.1.below b26) (by omega) (by omega))
                have B6 := Lib.hid b26
                clear hz hsj hb6 b36 b26 l1 l2 l3 CJ B5 B4 T1 T2
                go_wp2_with fail
                refine CS.out.mono ?_
                rintro e w7 ⟨he, hd⟩
                rw [decide_eq_true rfl] at he
                subst he
                have B7 := Lib.hid (B6.out.trans (hd.below.mono B6.out.size))
                clear hd B6 CS
                go_wp2
                go_roundg (cap + 1 - (cap + 1))
                case measure => omega
                case rel => exact ⟨cap + 1, by simp, by omega, Nat.le_refl _, B7⟩
              · have T1 := Lib.hid (slg_take (HB.out.2.2.below H3.out) i (by have := HS.out.2.2; omega) cap)
                have T2 := Lib.hid (slg_drop (HB.out.2.2.below H3.out) i (n - i) (by rw [HS.out.2.2]) (cap - i))
                have hb03 : Below w.heap.size w w3 := HB.out.2.1.trans (H3.out.mono HB.out.2.1.size)
                have hb13 : Below w1.heap.size w1 w3 := HB.out.1.trans (H3.out.mono HB.out.1.size)
                have B3 := Lib.hid (And.intro hb03 hb13)
                clear hb03 hb13
                go_wp2_with fail
                refine (CD.out w3 _ (l.take i) B3.out.1 B3.out.2 T1.out (fun r hr => HS.out.2.1 r (List.mem_of_mem_take hr)) (by rw [List.length_take]; have := HS.out.2.2; omega)).mono ?_
                rintro e w4 ⟨hz, hb4⟩
                obtain ⟨va, rfl, hsa⟩ := hz.sl
                have B4 := Lib.hid (And.intro hsa (And.intro hb4 (T2.out.below hb4)))
                clear hz hsa hb4
                go_wp2_with fail
                refine (CD.out w4 _ (l.drop i) (B3.out.1.trans (B4.out.2.1.mono B3.out.1.size)) (B3.out.2.trans (B4.out.2.1.mono B3.out.2.size)) B4.out.2.2 (fun r hr => HS.out.2.1 r (List.mem_of_mem_drop hr)) (by rw [List.length_drop]; have := HS.out.2.2; omega)).mono ?_
                rintro e w5 ⟨hz, hb5⟩
                obtain ⟨vb, rfl, hsb⟩ := hz.sl
                have l1 := bar_len HW.out.1.fe (l.take i)
                have l2 := bar_len HW.out.1.fe (l.drop i)
                have l3 := bar_len HW.out.1.fe l
                have hln := HS.out.2.2
                rw [List.length_take] at l1
                rw [List.length_drop] at l2
                have CJ := Lib.hid (njoined2 w5 va vb _ _ (B4.out.1.below hb5).toG hsb.toG (by omega))
                have B5 := Lib.hid (B4.out.2.1.trans (hb5.mono B4.out.2.1.size))
                clear hz hsb hb5
                go_wp2_with fail
                refine CJ.out.mono ?_
                rintro e w6 ⟨hz, hb6⟩
                rw [cut_math HW.out.1.fe (by omega) hcut] at hz
                obtain ⟨vj, rfl, hsj⟩ := hz.sl
                have b36 : Below w3.heap.size w3 w6 := B5.out.trans (hb6.mono B5.out.size)
                have b26 : Below w2.heap.size w2 w6 := hB.out.trans ((H3.out.trans (b36.mono H3.out.size)).mono hB.out.size)
                have CS := Lib.hid (sameRunes_any vj vd _ _ w6 hsj (H2.out.1.below b26) (by omega) (by omega))
                have B6 := Lib.hid b26
                clear hz hsj hb6 b36 b26 l1 l2 l3 CJ B5 B4 T1 T2
                go_wp2_with fail
                refine CS.out.mono ?_
                rintro e w7 ⟨he, hd⟩
                rw [decide_eq_true rfl] at he
                subst he
                have B7 := Lib.hid (B6.out.trans (hd.below.mono B6.out.size))
                clear hd B6 CS
                go_wp2
                go_roundg (n + 1 - (i + 1))
                case measure => omega
                case rel => exact ⟨i + 1, by simp, by omega, Nat.le_refl _, B7⟩
        · obtain rfl : i = n + 1 := by omega
          have hgt : ¬ (((n + 1 : Nat) : Int)) ≤ (n : Int) := by omega
          have CR := Lib.hid (CW.out wr (H2.out.2.2.trans (hB.out.mono H2.out.2.2.size)))
          go_wp2_with fail
          refine CR.out.mono ?_
          rintro e w5 ⟨rfl, hb5⟩
          have H5 := Lib.hid hb5
          clear hb5
          go_wp2
          go_ret
          exact ⟨rfl, H5.out⟩
  · obtain ⟨t, v, hv⟩ := errP_ifc7 no line
    rw [hv]
    have H := Lib.hid hb1
    have ne1 : ∀ (t : TypeId) (v : Value) (W : World), (binOp .neq 47 (.iface t v) .nilIface).run Tryz.prog W = .ok (.bool true) W := fun t v W => by go_simp
    clear hP hb1 hv h0 CP
    go_wp2_with fail
    refine (CW.out w1 H.out).mono ?_
    rintro e w2 ⟨rfl, hb2⟩
    have H2 := Lib.hid hb2
    clear hb2
    go_wp2
    go_ret
    exact ⟨rfl, H2.out⟩
end Go.Proofs.YtcfhblbmpbfoaaaGreatDoor
namespace Go.Proofs.YtcfhblbmpbfoaaaGreatDoor
open Go Go.RowKit Go.Kt Go.Kt.Sg Go.Shelf Go.Lib Go.Kt.Rg Go.Maps Go.Kt.Bits
theorem nenv_of {w : World} (h : PEnv w ∧ Lib.Utf8Tabs 3 4 w) : NEnv w := by
  refine ⟨h.1, h.2, ?_⟩
  have h1 : 3 < w.heap.size := Kt.lt_of_cell (h.2.1 0 (by omega))
  have h2 : 4 < w.heap.size := Kt.lt_of_cell (h.2.2 0 (by omega)).1
  omega
def SlC (W : World) (v : Value) (l : List Int) : Prop :=
  ∃ ad n cap, v = .slice ad n cap ∧ l.length = n ∧ n ≤ cap ∧ cap ≤ 9223372036854775807 ∧ (ad = none → cap = 0) ∧ Slg .i32 W v l
theorem ncuts_q (f : ByteArray) (v : Value) (l : List Int) (w : World) (hE : PEnv w ∧ Lib.Utf8Tabs 3 4 w) (hS : SlC w v l) (hr : ∀ r ∈ l, I32 r) (_hz : l.length ≤ 35184372087808) :
    Calls Tryz.prog 7 #[.string f, v] w fun e w' => e = .returned (.bool true) ∧ Below w.heap.size w w' := by
  obtain ⟨ad, n, cap, rfl, hn, hc, hm, h0, hS⟩ := hS
  exact ncuts_c f ad n cap l w (nenv_of hE) hS hr hn hc hm h0
end Go.Proofs.YtcfhblbmpbfoaaaGreatDoor
