/- The print of a set. -/
import Derived.Test.YtmcmdijfdhlnaaaDoorNp
import Derived.Test.YtmcmdijfdhlnaaaDoorNm
import Derived.Test.YtmcmdijfdhlnaaaDoorZ1
namespace Go.Proofs.YtmcmdijfdhlnaaaDoor
open Go Go.RowKit Go.Kt Go.Kt.Rg
attribute [local go_sem] Oper.semAt_some

/-- The form of one span, of spans. -/
def printS (x : Int × Int) : List UInt8 := printP x.1 ++ (if x.2 = x.1 then [] else 45 :: printP x.2)
def printL (L : List (Int × Int)) : List UInt8 := L.flatMap printS
theorem printP_len (r : Int) : (printP r).length ≤ 13 := by
  have h := fun u => hexF_len 8 u
  unfold printP hexL
  split
  · have := h (r - 1114112).toNat; simp only [List.length_append, List.length_cons, List.length_nil]; omega
  · have := h r.toNat; simp only [List.length_append, List.length_cons, List.length_nil]; omega
theorem printS_len (x : Int × Int) : (printS x).length ≤ 27 := by
  have h1 := printP_len x.1
  have h2 := printP_len x.2
  unfold printS
  split <;> simp only [List.length_append, List.length_cons, List.length_nil] <;> omega
theorem printL_len (L : List (Int × Int)) : (printL L).length ≤ 27 * L.length := by
  induction L with
  | nil => simp [printL]
  | cons x t ih => have := printS_len x; simp only [printL, List.flatMap_cons, List.length_append, List.length_cons] at ih ⊢; omega
theorem printL_snoc (L : List (Int × Int)) (x : Int × Int) : printL (L ++ [x]) = printL L ++ printS x := by simp [printL]

/-- A builder at work, seen from the world A. -/
def St (n : Nat) (Yb : Nat → Prop) (A : World) (acc : List UInt8) (V : World) : Prop :=
  Bld n (fun x => Yb x ∨ A.heap.size ≤ x) acc V ∧ Keep (fun x => x = n ∨ Yb x) A V
theorem St.next {n : Nat} {Yb : Nat → Prop} {A V V' : World} {acc acc' : List UInt8} {Y' : Nat → Prop} (h : St n Yb A acc V) (hb : Bld n Y' acc' V') (hk : Keep (fun c => c = n ∨ (Yb c ∨ A.heap.size ≤ c)) V V') (hY : ∀ c, Y' c → (Yb c ∨ A.heap.size ≤ c) ∨ V.heap.size ≤ c) : St n Yb A acc' V' := by
  have hs := h.2.size
  obtain ⟨p, v, hp, hh, ho, hne, hy⟩ := hb
  refine ⟨⟨p, v, hp, hh, ho, hne, fun g hg => ?_⟩, h.2.plus hk fun b hb hx => ?_⟩
  · rcases hY g (hy g hg) with hx | hx
    · exact hx
    · exact .inr (by omega)
  · rcases hx with hx | hx | hx
    · exact .inl hx
    · exact .inr hx
    · omega
theorem St.ws {n : Nat} {Yb : Nat → Prop} {A V : World} {acc : List UInt8} (h : St n Yb A acc V) (s : List UInt8) (hlen : acc.length + s.length ≤ 140737488355328) :
    Calls Tryd.prog 31 #[.pointer (some ⟨n, 0, none⟩), .string ⟨s.toArray⟩] V fun e V' => e = .returned (.tuple #[.int .i64 s.length, .nilIface]) ∧ St n Yb A (acc ++ s) V' := by
  have hs : (⟨s.toArray⟩ : ByteArray).size = s.length := by simp [ByteArray.size]
  refine (writeString_x n _ acc ⟨s.toArray⟩ V h.1 (by omega)).mono ?_
  rintro e V' ⟨rfl, Y', hb, hk, hY⟩
  exact ⟨by rw [hs], h.next (by simpa using hb) hk hY⟩
theorem St.wb {n : Nat} {Yb : Nat → Prop} {A V : World} {acc : List UInt8} (h : St n Yb A acc V) (c : Nat) (hc : c < 256) (hlen : acc.length + 1 ≤ 140737488355328) :
    Calls Tryd.prog 29 #[.pointer (some ⟨n, 0, none⟩), .int .u8 c] V fun e V' => e = .returned .nilIface ∧ St n Yb A (acc ++ [UInt8.ofNat c]) V' := by
  refine (writeByte_x n _ acc c V h.1 (by omega) (by omega) hlen).mono ?_
  rintro e V' ⟨rfl, Y', hb, hk, hY⟩
  exact ⟨rfl, h.next (by simpa using hb) hk hY⟩
theorem Bld.lt {b : Nat} {Y : Nat → Prop} {l : List UInt8} {W : World} (h : Bld b Y l W) : Bld b (fun x => Y x ∧ x < W.heap.size) l W := by
  obtain ⟨p, v, hp, hh, ho, hne, hy⟩ := h
  refine ⟨p, v, hp, hh, ho, hne, fun g hg => ⟨hy g hg, ?_⟩⟩
  rcases ho.2 with ⟨hv, _⟩ | ⟨g', cap, cur, fz, rfl, _, hg', _⟩
  · rw [hv] at hg; cases hg
  · cases hg; exact (Array.getElem?_eq_some_iff.1 hg').1
theorem Bld.weaken {b : Nat} {Y Y' : Nat → Prop} {l : List UInt8} {W : World} (h : Bld b Y l W) (hY : ∀ x, Y x → Y' x) : Bld b Y' l W := by
  obtain ⟨p, v, hp, hh, ho, hne, hy⟩ := h
  exact ⟨p, v, hp, hh, ho, hne, fun g hg => hY _ (hy g hg)⟩
theorem Bld.at {b : Nat} {l : List UInt8} {W : World} (h : ∃ Y, Bld b Y l W) : b < W.heap.size := by
  obtain ⟨Y, p, v, hp, hh, _⟩ := h
  exact (Array.getElem?_eq_some_iff.1 hh).1
theorem St.below {n : Nat} {Yb : Nat → Prop} {A V V' : World} {acc : List UInt8} (h : St n Yb A acc V) (hb : Below V.heap.size V V') : St n Yb A acc V' := by
  have hk : Keep (fun _ => False) V V' := .of_all hb
  exact ⟨h.1.keep hk (fun h => h) (fun _ _ h => h), h.2.plus hk (fun _ _ h => h.elim)⟩
theorem St.start {n : Nat} {Yb : Nat → Prop} {A : World} {acc : List UInt8} (h : Bld n Yb acc A) : St n Yb A acc A := by
  obtain ⟨p, v, hp, hh, ho, hne, hy⟩ := h
  exact ⟨⟨p, v, hp, hh, ho, hne, fun g hg => .inl (hy g hg)⟩, Keep.refl _ _⟩

set_option maxRecDepth 100000 in
set_option maxHeartbeats 2000000 in
theorem rPrint_any (l : List Run) (b : Nat) (w : World) (h : SetAt l b w) (hc : Canon l) (hT : PTab w) (hB : BTab w) (hbt : 6 < w.heap.size) :
    Calls Tryd.prog 16 #[ptrV b] w fun e w' => e = .returned (.string ⟨(91 :: printL (spansL l) ++ [93]).toArray⟩) ∧ Below w.heap.size w w' := by
  have hlen := canon_len hc (Int.le_refl _)
  have hl : l.length ≤ 1112192 := by unfold allN at hlen; omega
  obtain ⟨hbl, g, hg, ao, cap, hrow⟩ := set_row h
  have hpt := hT.lt
  obtain ⟨n, hn⟩ : ∃ n, w.heap.size = n := ⟨_, rfl⟩
  obtain ⟨W0, hW0⟩ : ∃ W0, w.alloc (.cells #[.pointer none, .slice none 0 0] 68 (0, 0)) = W0 := ⟨_, rfl⟩
  have hz0 : W0.heap.size = n + 1 := by rw [← hW0]; simp [hn]
  have hb0 : Below n w W0 := by rw [← hW0]; exact (Below.refl _ _).alloc (by omega) _
  have b0 : W0.heap[n]? = some (.cells #[.pointer none, .slice none 0 0] 68 (0, 0)) := by rw [← hW0]; exact alloc_at hn.symm
  have st0 : St n (fun _ => False) W0 [] W0 := St.start ⟨_, _, .inl rfl, b0, ⟨rfl, .inl ⟨rfl, rfl⟩⟩, by simp [Value.ownBlock], by simp [Value.ownBlock]⟩
  have C0 := Lib.hid (st0.wb 91 (by decide) (by simp))
  have HW0 := Lib.hid hW0
  have HROW := Lib.hid hrow
  have HC := Lib.hid hc
  have HT := Lib.hid hT
  have HB := Lib.hid hB
  have HN := Lib.hid hn
  have HB0 := Lib.hid hb0
  have hfn : ∀ k, Fence.wide.fn k := fun _ => trivial
  have hdep : Fence.wide.depth = none := rfl
  clear h hlen hrow hc hT hB hW0 hb0 b0 st0
  rw [hn] at hbl hg hpt hbt
  rw [hn]
  clear hn
  refine (callsIn_wide (n := 0)).1 ?_
  refine callsIn_of_wp_marks Tryd.func16 rfl trivial ?_ rfl
  simp only [Tryd.ntmps16, List.size_toArray, List.length_cons, List.length_nil, Nat.reduceAdd, Nat.reduceSub, Array.replicate_succ, Array.replicate_zero, List.push_toArray, List.append_toArray, List.nil_append, List.cons_append]
  gi_wp2_with fail
  rw [HW0.out, HN.out]
  refine (callsIn_wide.2 C0.out).mono ?_
  rintro e w2 ⟨rfl, st2⟩
  have ST2 := Lib.hid st2
  clear st2
  gi_wp2_with fail
  refine (callsIn_wide.2 (rspans_call b w2)).mono ?_
  rintro e w3 ⟨rfl, hw3⟩
  obtain ⟨bs, hbs⟩ : ∃ bs, w2.heap.size = bs := ⟨_, rfl⟩
  rw [hbs]
  have hz3 : w3.heap.size = bs + 1 := by rw [← hw3]; simp [hbs]
  have hb3 : Below bs w2 w3 := by rw [← hw3]; exact (Below.refl _ _).alloc (by omega) _
  have c3 : w3.cell? ⟨bs, 0, none⟩ = some (ptrV b) := by rw [← hw3, Lib.cell_of_heap (alloc_at hbs.symm)]; rfl
  have st3 : St n (fun _ => False) W0 [91] w3 := ST2.out.below (by rw [hbs]; exact hb3)
  have hk23 := ST2.out.2.size
  have hbw3 : Below n w w3 := HB0.out.trans ((ST2.out.2.below (by omega) (fun x hx => by rcases hx with hx | hx; omega; exact hx.elim)).trans (hb3.mono (by omega)))
  have hTb : PTab w3 := HT.out.below hpt hbw3
  have hit := spans_iter l bs b g w3 c3 ⟨ao, cap, HROW.out w3 (by rw [HN.out]; exact hbw3)⟩ HC.out hTb
  obtain ⟨Y2, hY2⟩ : ∃ Y2 : Nat → Prop, Y2 = fun x => (n + 1 ≤ x ∧ x < bs) := ⟨_, rfl⟩
  have bld3 : Bld n Y2 [91] w3 := by
    have h1 := ST2.out.1.lt
    have h2 : Bld n Y2 [91] w2 := by
      obtain ⟨p, v, hp, hh, ho, hne, hy⟩ := h1
      exact ⟨p, v, hp, hh, ho, hne, fun g hg => by have := hy g hg; rw [hY2]; rcases this with ⟨hx | hx, hx2⟩; exact hx.elim; exact ⟨by omega, by omega⟩⟩
    exact h2.keep (X := fun _ => False) (.of_all (by rw [hbs]; exact hb3)) (fun h => h) (fun _ _ h => h)
  have HIT := Lib.hid hit
  have HB3 := Lib.hid hbw3
  have BLD3 := Lib.hid bld3
  clear hw3 hb3 c3 st3 hbw3 hTb hit bld3
  have hY2r : ∀ x, Y2 x → n + 1 ≤ x ∧ x < bs := fun x hx => by rw [hY2] at hx; exact hx
  clear hY2
  gi_wp2_with fail
  refine loop_out (gf := 45) (lb := #[.pointer (some ⟨bs, 0, none⟩)]) (encs := encS) rfl enters_spans
    HIT.out (fun _ => rfl) (X := fun x => x = n ∨ Y2 x)
    (fun x hx => by rcases hx with hx | hx; omega; have := hY2r x hx; omega) (fun x hx => ?nd) (fun _ _ => rfl) (Nat.le_refl _)
    (fun pre Y W => Bld n (fun x => Y2 x ∨ Y x) (91 :: printL pre) W)
    (fun _ _ _ _ => False)
    (fun pre Y W W' hk h' => h'.keep hk (fun hx => by have := hx.1; omega) (fun x hx hy => by rcases hx with hx | hx; have := hY2r x hx; have := hy.1; omega; exact hy.2 hx))
    (fun _ _ _ _ _ _ h => h) (BLD3.out.weaken fun x hx => .inl hx) ?round ?done ?stop
  case stop => intro D c pre Y W _ _ _ h; exact h.elim
  case nd =>
    rcases hx with rfl | rfl | rfl | rfl
    · exact ⟨fun hx => by rcases hx with hx | hx; omega; have := hY2r _ hx; omega, by omega⟩
    · exact ⟨fun hx => by rcases hx with hx | hx; omega; have := hY2r _ hx; omega, by omega⟩
    · exact ⟨fun hx => by rcases hx with hx | hx; omega; have := hY2r _ hx; omega, by omega⟩
    · exact ⟨fun hx => by rcases hx with hx | hx; omega; have := hY2r _ hx; omega, by omega⟩
  case round =>
    rintro l' hl' pre ⟨lo, hi⟩ Y W hpre hi' hk hY hlt hr
    have hbd : Bld n (fun x => Y2 x ∨ Y x) (91 :: printL pre) W := hi'
    have hW := hk.size
    obtain ⟨a, ha⟩ : ∃ a, W.heap.size = a := ⟨_, rfl⟩
    have hrange : (0 ≤ lo ∧ lo ≤ 1114367) ∧ (0 ≤ hi ∧ hi ≤ 1114367) := by
      obtain ⟨rest, hrest⟩ := hpre
      have hm : (lo, hi) ∈ spansL l := by rw [← hrest]; simp
      obtain ⟨r, hr1, hr2⟩ := List.mem_map.1 hm
      have hf := Canon.fit HC.out r hr1
      unfold spanP at hr2
      cases hr2
      exact ⟨pntI_bd (by omega), pntI_bd (by omega)⟩
    have hlenP : (91 :: printL pre).length ≤ 27 * 1112192 + 1 := by
      obtain ⟨rest, hrest⟩ := hpre
      have h1 := printL_len pre
      have h2 : (spansL l).length = l.length := by simp [spansL]
      have h3 : pre.length ≤ l.length := by rw [← h2, ← hrest]; simp
      simp only [List.length_cons]; omega
    have hp1 := printP_len lo
    have hp2 := printP_len hi
    have HY := Lib.hid hY
    have HBD := Lib.hid hbd
    have HR := Lib.hid hr
    have HK := Lib.hid hk
    clear hi' hk hpre hY hr hbd
    simp only [encS]
    gi_wp2
    (try rw [ha])
    refine ⟨(Keep.refl _ _).alloc _, ?_⟩
    rintro W2 hk1 hk2 _ hr2
    have hsz := hk1.size
    simp at hsz
    have c5 : W2.cell? ⟨a, 0, none⟩ = some (.int .i32 lo) := hk1.cell (by rw [Lib.cell_of_heap (alloc_at ha.symm)]; rfl) (fun h => by have h : a = l' := h; omega)
    have c6 : W2.cell? ⟨a, 1, none⟩ = some (.int .i32 hi) := hk1.cell (by rw [Lib.cell_of_heap (alloc_at ha.symm)]; rfl) (fun h => by have h : a = l' := h; omega)
    have hkl : Keep (fun b => b = l') W W2 := ((Keep.refl (fun b => b = l') W).alloc _).trans hk1
    have hb2 : Below n w W2 := HB3.out.trans (hk2.below (by omega) (fun x hx => by rcases hx with hx | hx; omega; have := hY2r x hx; omega))
    have hbt2 : BTab W2 := fun k hk => (hb2.cell (p := ⟨6, k, none⟩) hbt).trans (HB.out k hk)
    have stA : St n (fun x => (Y2 x ∨ Y x) ∧ x < a) W2 (91 :: printL pre) W2 := by
      have h1 := HBD.out.lt
      rw [ha] at h1
      exact St.start (h1.keep hkl (fun h => by have h : n = l' := h; omega) (fun x hx hy => by
        have hy : x = l' := hy
        rcases hx.1 with hz | hz
        · have := hY2r x hz; omega
        · exact (HY.out x hz).2 hy))
    have CC : Hid (∀ (acc : List UInt8) (V : World), St n (fun x => (Y2 x ∨ Y x) ∧ x < a) W2 acc V → V.cell? ⟨a, 0, none⟩ = some (.int .i32 lo) ∧ V.cell? ⟨a, 1, none⟩ = some (.int .i32 hi) ∧ BTab V) := Lib.hid fun acc V hS => by
      have hx : ¬ (a = n ∨ ((Y2 a ∨ Y a) ∧ a < a)) := fun h => by rcases h with h | h; omega; exact absurd h.2 (Nat.lt_irrefl _)
      refine ⟨hS.2.cell (p := ⟨a, 0, none⟩) c5 hx, hS.2.cell (p := ⟨a, 1, none⟩) c6 hx, fun k hk => ((hS.2.below (n := n) (by omega) (fun x hx => ?_)).cell (p := ⟨6, k, none⟩) hbt).trans (hbt2 k hk)⟩
      rcases hx with hx | ⟨hx | hx, _⟩
      · omega
      · have := hY2r x hx; omega
      · have := (HY.out x hx).1; omega
    have FIN : Hid (∀ (V : World), St n (fun x => (Y2 x ∨ Y x) ∧ x < a) W2 (91 :: printL pre ++ printS (lo, hi)) V → Kt.Left (fun x => x = n ∨ Y2 x) Y (fun pre Y W => Bld n (fun x => Y2 x ∨ Y x) (91 :: printL pre) W) (pre ++ [(lo, hi)]) W2 V) := Lib.hid fun V hS => by
      refine ⟨fun x => Y x ∨ W2.heap.size ≤ x, hS.2.weaken (fun x _ hx => ?_), fun x hx => hx, ?_⟩
      · rcases hx with hx | ⟨hx | hx, _⟩
        · exact .inl (.inl hx)
        · exact .inl (.inr hx)
        · exact .inr hx
      · show Bld n (fun x => Y2 x ∨ (Y x ∨ W2.heap.size ≤ x)) (91 :: printL (pre ++ [(lo, hi)])) V
        rw [printL_snoc]
        exact hS.1.weaken fun x hx => by
          rcases hx with ⟨hx | hx, _⟩ | hx
          · exact .inl hx
          · exact .inr (.inl hx)
          · exact .inr (.inr hx)
    have STA := Lib.hid stA
    have HB2 := Lib.hid hbt2
    clear stA hbt2 hb2 hkl hk1 hk2 hr2 hsz
    gi_wp2_with fail
    refine (CallsIn.inRound l' (callsIn_wide.2 (rprinted_any lo W2 HB2.out hrange.1))).mono ?_
    rintro e V1 ⟨rfl, hb1⟩
    have st1 := STA.out.below hb1
    obtain ⟨d5, d6, _⟩ := CC.out _ _ st1
    have C1 := Lib.hid (st1.ws (printP lo) (by omega))
    clear st1 hb1 c5 c6
    gi_wp2_with fail
    refine (CallsIn.inRound l' (callsIn_wide.2 C1.out)).mono ?_
    rintro e V2 ⟨rfl, st2⟩
    obtain ⟨c5, c6, _⟩ := CC.out _ _ st2
    clear d5 d6
    by_cases hh : hi = lo
    · have e1 : (hi != lo) = false := by simp [hh]
      have hps : printS (lo, hi) = printP lo := by unfold printS; rw [if_pos hh, List.append_nil]
      have HF := Lib.hid (FIN.out V2 (by rw [hps]; exact st2))
      clear st2 hh hps
      gi_wp2_with fail
      exact HF.out
    · have e1 : (hi != lo) = true := by simp [hh]
      have hps : printS (lo, hi) = printP lo ++ [UInt8.ofNat 45] ++ printP hi := by unfold printS; rw [if_neg hh]; simp
      have HPS := Lib.hid hps
      have C2 := Lib.hid (st2.wb 45 (by decide) (by simp only [List.length_append]; omega))
      clear st2 hh hps
      gi_wp2_with fail
      refine (CallsIn.inRound l' (callsIn_wide.2 C2.out)).mono ?_
      rintro e V3 ⟨rfl, st3⟩
      obtain ⟨d5, d6, hbt3⟩ := CC.out _ _ st3
      have HB3' := Lib.hid hbt3
      have ST3 := Lib.hid st3
      clear hbt3 st3 c5 c6
      gi_wp2_with fail
      refine (CallsIn.inRound l' (callsIn_wide.2 (rprinted_any hi V3 HB3'.out hrange.2))).mono ?_
      rintro e V4 ⟨rfl, hb4⟩
      have C4 := Lib.hid ((ST3.out.below hb4).ws (printP hi) (by simp only [List.length_append, List.length_cons, List.length_nil] at hlenP ⊢; omega))
      clear hb4 d5 d6
      gi_wp2_with fail
      refine (CallsIn.inRound l' (callsIn_wide.2 C4.out)).mono ?_
      rintro e V5 ⟨rfl, st5⟩
      have HF := Lib.hid (FIN.out V5 (by rw [HPS.out]; simpa using st5))
      clear st5
      gi_wp2_with fail
      exact HF.out
  case done =>
    rintro D Y W hD hDd hbd hY hkW
    have hlenP : (91 :: printL (spansL l)).length ≤ 27 * 1112192 + 1 := by
      have h1 := printL_len (spansL l)
      have h2 : (spansL l).length = l.length := by simp [spansL]
      simp only [List.length_cons]; omega
    have hsW := hkW.size
    have hYn : ∀ x, (Y2 x ∨ Y x) → n ≤ x ∧ x ≠ D ∧ x ≠ n := fun x hx => by
      rcases hx with hx | hx
      · have := hY2r x hx; exact ⟨by omega, by omega, by omega⟩
      · have := hY x hx; exact ⟨by omega, this.2, by omega⟩
    have hbW : Below n w W := HB3.out.trans (hkW.below (by omega) (fun x hx => by rcases hx with hx | hx; omega; have := hY2r x hx; omega))
    have stD : St n (fun x => Y2 x ∨ Y x) W (91 :: printL (spansL l)) W := St.start hbd
    have C1 := Lib.hid (stD.wb 93 (by decide) (by omega))
    have HD := Lib.hid (And.intro hDd (And.intro hYn hbW))
    clear stD hbd hDd hYn hbW hkW hY
    gi_wp2_with fail
    refine (callsIn_wide.2 C1.out).mono ?_
    rintro e V1 ⟨rfl, st1⟩
    obtain ⟨hDd, hYn, hbW⟩ := HD.out
    have hs1 := st1.2.size
    have hD1 : V1.heap[D]? = some (.deferred (some [])) := st1.2.heap hDd (fun h => by rcases h with h | h; omega; exact (hYn D h).2.1 rfl)
    have hb1 : Below n w V1 := hbW.trans (st1.2.below (by omega) (fun x hx => by rcases hx with hx | hx; omega; exact (hYn x hx).1))
    have C2 := Lib.hid (string_x n _ _ V1 st1.1 n (by omega) (Nat.le_refl _) (fun x hx => by rcases hx with hx | hx; exact (hYn x hx).1; omega))
    have HH := Lib.hid (And.intro hD1 hb1)
    clear hDd hYn hbW st1 hD1 hb1
    gi_wp2_with fail
    refine (callsIn_wide.2 C2.out).mono ?_
    rintro e V2 ⟨rfl, hb2, ho2⟩
    have hD2 : V2.heap[D]? = some (.deferred (some [])) := ho2 D _ HH.out.1 (by simp; omega) (by intro c fz h; cases h)
    have hs2 := hb2.size
    have HF := Lib.hid (And.intro hD2 (HH.out.2.trans hb2))
    clear hb2 ho2 hD2
    gi_wp2_with fail
    refine leaves_marks (Ds := [D]) (by simp) (fun D' h => by simp at h; subst h; exact HF.out.1) (fun W' hk' => ⟨_, results_tmp rfl _ _ _, ?_, ?_⟩)
    · rfl
    · exact HF.out.2.trans (hk'.below (by omega) (fun x hx => by have hx : x = D := by simpa using hx
                                                                 omega))
end Go.Proofs.YtmcmdijfdhlnaaaDoor
