import Derived.Test.YthcfpmjkfnoofaaDoorR
namespace Go.Proofs.YthcfpmjkfnoofaaDoor
open Go Go.RowKit Go.Kt Go.Shelf
attribute [local go_sem] Oper.semAt_some

set_option maxRecDepth 100000 in
set_option maxHeartbeats 1000000 in
theorem utfMend_any (s by' : ByteArray) (whole : Bool) (w : World) (hT : Lib.Utf8Tabs 1 2 w) (h2 : 3 ≤ w.heap.size) (hs : s.size ≤ 4611686018427387904) (hM : s.size + s.size * by'.size ≤ 140737488355328) :
    Calls Tryd.prog 51 #[.string s, .string by', .bool whole] w fun e w' => e = .returned (.string ⟨(mendL s by' whole).toArray⟩) ∧ Below w.heap.size w w' := by
  have HT := Lib.hid hT; clear hT
  have hfn : ∀ k, Fence.wide.fn k := fun _ => trivial
  have hdep : Fence.wide.depth = none := rfl
  refine (callsIn_wide (n := 0)).1 ?_
  refine callsIn_of_wp_marks Tryd.func51 rfl trivial ?_ rfl
  simp only [Tryd.ntmps51, List.size_toArray, List.length_cons, List.length_nil, Nat.reduceAdd, Nat.reduceSub, Array.replicate_succ, Array.replicate_zero, List.push_toArray, List.append_toArray, List.nil_append, List.cons_append]
  gi_wp2_with fail
  refine (callsIn_wide.2 (utfBad_call s _)).mono ?_
  rintro e w1 ⟨rfl, hw1⟩
  gi_wp2_with fail
  generalize hn : w.heap.size = n at *
  have hsz1 : w1.heap.size = n + 6 := by rw [← hw1]; simp [hn]
  have hbw : Below n w w1 := by
    rw [← hw1]
    exact ((((((Below.refl n w).alloc (by omega) _).alloc (by simp; omega) _).alloc (by simp; omega) _).alloc (by simp; omega) _).alloc (by simp; omega) _).alloc (by simp; omega) _
  have b0 : w1.heap[n]? = some (.cells #[.string s] 9 (0, 0)) := by rw [← hw1]; simp only [heap_alloc_if, World.size_alloc, hn]; (repeat rw [if_neg (by omega)]); simp
  have b1 : w1.heap[n + 1]? = some (.cells #[.string by'] 9 (0, 0)) := by rw [← hw1]; simp only [heap_alloc_if, World.size_alloc, hn]; (repeat rw [if_neg (by omega)]); simp
  have b2 : w1.heap[n + 2]? = some (.cells #[.bool whole] 4 (0, 0)) := by rw [← hw1]; simp only [heap_alloc_if, World.size_alloc, hn]; (repeat rw [if_neg (by omega)]); simp
  have b3 : w1.heap[n + 3]? = some (.cells #[.pointer none, .slice none 0 0] 106 (0, 0)) := by rw [← hw1]; simp only [heap_alloc_if, World.size_alloc, hn]; (repeat rw [if_neg (by omega)]); simp
  have b4 : w1.heap[n + 4]? = some (.cells #[.int .i64 0] 3 (0, 0)) := by rw [← hw1]; simp only [heap_alloc_if, World.size_alloc, hn]; (repeat rw [if_neg (by omega)]); simp
  have b5 : w1.heap[n + 5]? = some (.cells #[.string s] 9 (0, 0)) := by rw [← hw1]; simp only [heap_alloc_if, World.size_alloc, hn]; (repeat rw [if_neg (by omega)]); simp
  have HT1 : Hid (Lib.Utf8Tabs 1 2 w1) := Lib.hid (tabs_below HT.out h2 hbw)
  have ch := badsF_chain s s.size 0
  have HC := Lib.hid ch
  clear hw1 ch
  refine loop_out (gf := 126) (lb := #[.pointer (some ⟨n + 5, 0, none⟩)]) (encs := encP) rfl (enters_of Tryd.func126 (by kernel_rfl) rfl)
    (bad_iter s (n + 5) w1 (by rw [Lib.cell_of_heap b5]; rfl) hs HT1.out (by omega)) (fun _ => rfl) (X := fun b => b = n + 3 ∨ b = n + 4)
    (fun b hb => by omega) (fun b hb => by rw [hsz1]; omega) (fun _ _ => rfl) (Nat.le_refl _)
    (fun pre Y W => Bld (n + 3) Y (mendF s by' whole pre).1 W ∧ W.heap[n + 4]? = some (.cells #[.int .i64 (mendF s by' whole pre).2] 3 (0, 0)))
    (fun _ _ _ _ => False)
    (fun pre Y W W' hk h => ⟨h.1.keep hk (fun hx => by have := hx.1; omega) (fun g hg hx => hx.2 hg), hk.heap h.2 (fun hx => by have := hx.1; omega)⟩)
    (fun _ _ _ _ _ _ h => h) ⟨⟨_, _, .inl rfl, b3, ⟨rfl, .inl ⟨rfl, rfl⟩⟩, by simp [Value.ownBlock], by simp [Value.ownBlock]⟩, b4⟩ ?round ?done ?stop
  case stop => intro D c pre Y W _ _ _ h; exact h.elim
  case round =>
    rintro l hl pre ⟨at', wide⟩ Y W hpre hi hk hY hlt hr
    gi_wp2
    refine ⟨Keep.refl _ _, ?_⟩
    rintro W2 _ hk2 ⟨hb, he⟩ hr2
    obtain ⟨rest, hrest⟩ := hpre
    have hch := chain_end s by' whole pre ((at', wide) :: rest) [] 0 (by have := HC.out; rw [show badsF s s.size 0 = bads s from rfl, ← hrest, List.append_assoc] at this; exact this) (by omega) (by simp)
    obtain ⟨g1, ⟨g2, g3, g4, _⟩, g5⟩ := hch
    have hsnoc : mendF s by' whole (pre ++ [(at', wide)]) = mendStep s by' whole (mendF s by' whole pre) (at', wide) := mendF_snoc ..
    have Hsnoc := Lib.hid hsnoc
    change (mendF s by' whole pre).2 ≤ s.size at g1
    change (mendF s by' whole pre).2 ≤ at' at g2
    change (mendF s by' whole pre).1.length ≤ (mendF s by' whole pre).2 + (mendF s by' whole pre).2 * by'.size at g5
    clear hsnoc hi hrest
    generalize mendF s by' whole pre = st at *
    obtain ⟨acc, e⟩ := st
    simp only at hb he g1 g2 g5
    have c0 : W2.cell? ⟨n, 0, none⟩ = some (.string s) := hk2.cell (p := ⟨n, 0, none⟩) (by rw [Lib.cell_of_heap b0]; rfl) (by show ¬ (n = n + 3 ∨ n = n + 4); omega)
    have c1 : W2.cell? ⟨n + 1, 0, none⟩ = some (.string by') := hk2.cell (p := ⟨n + 1, 0, none⟩) (by rw [Lib.cell_of_heap b1]; rfl) (by show ¬ (n + 1 = n + 3 ∨ n + 1 = n + 4); omega)
    have c2 : W2.cell? ⟨n + 2, 0, none⟩ = some (.bool whole) := hk2.cell (p := ⟨n + 2, 0, none⟩) (by rw [Lib.cell_of_heap b2]; rfl) (by show ¬ (n + 2 = n + 3 ∨ n + 2 = n + 4); omega)
    have ce : W2.cell? ⟨n + 4, 0, none⟩ = some (.int .i64 e) := by rw [Lib.cell_of_heap he]; rfl
    have hsz2 := hk2.size
    have seglen : (s.extract e at').size = at' - e := by rw [ByteArray.size_extract]; omega
    have hmul : (at' + wide) * by'.size ≤ s.size * by'.size := Nat.mul_le_mul_right _ g4
    have hmul2 : (at' + wide) * by'.size = at' * by'.size + wide * by'.size := Nat.add_mul _ _ _
    have hmul3 : e * by'.size ≤ at' * by'.size := Nat.mul_le_mul_right _ g2
    have hAcc : Hid (acc.length + (at' - e) + wide * by'.size ≤ 140737488355328) := Lib.hid (by omega)
    have Hg := Lib.hid (And.intro hmul (And.intro hmul2 (And.intro hmul3 g5)))
    clear hmul hmul2 hmul3 g5
    gi_wp2_with fail
    refine (CallsIn.inRound l (callsIn_wide.2 (writeString_x (n + 3) Y acc (s.extract e at') W2 hb (by rw [seglen]; have := hAcc.out; omega)))).mono ?_
    rintro e1 W3 ⟨rfl, Y3, hb3, hk3, hY3⟩
    have he3 : W3.heap[n + 4]? = some (.cells #[.int .i64 e] 3 (0, 0)) := hk3.heap he (fun h => by rcases h with h | h; omega; have := (hY _ h).1; omega)
    have hYn : ∀ b, b < n + 6 → ¬ Y b := fun b hb hy => by have := (hY b hy).1; omega
    have hYn3 : ∀ b, b < n + 6 → ¬ Y3 b := fun b hb hy => by rcases hY3 b hy with h | h; exact hYn b hb h; omega
    have d1 : W3.cell? ⟨n + 1, 0, none⟩ = some (.string by') := hk3.cell c1 (by show ¬ (n + 1 = n + 3 ∨ Y (n + 1)); intro h; rcases h with h | h; omega; exact hYn _ (by omega) h)
    have d2 : W3.cell? ⟨n + 2, 0, none⟩ = some (.bool whole) := hk3.cell c2 (by show ¬ (n + 2 = n + 3 ∨ Y (n + 2)); intro h; rcases h with h | h; omega; exact hYn _ (by omega) h)
    have d4 : W3.cell? ⟨n + 4, 0, none⟩ = some (.int .i64 e) := by rw [Lib.cell_of_heap he3]; rfl
    have f4 : W3.frozen? ⟨n + 4, 0, none⟩ = false := Lib.frozen_of_heap he3 0
    clear c0 c1 c2 ce
    have Hhe3 := Lib.hid he3
    clear he3 he
    obtain ⟨T, hT⟩ : ∃ T : Nat, T = if whole then 1 else wide := ⟨_, rfl⟩
    obtain ⟨W4, hW4⟩ : ∃ W4, W3.setCell ⟨n + 4, 0, none⟩ (.int .i64 ((at' : Int) + wide)) = W4 := ⟨_, rfl⟩
    have hk4 : Keep (fun b => b = n + 4) W3 W4 := by rw [← hW4]; exact (Keep.refl (fun b => b = n + 4) W3).setCell (p := ⟨n + 4, 0, none⟩) rfl _
    have he4 : W4.heap[n + 4]? = some (.cells #[.int .i64 ((at' + wide : Nat) : Int)] 3 (0, 0)) := by
      rw [← hW4]; simp [World.setCell, Array.getElem?_modify, Hhe3.out]
    have hb4 : Bld (n + 3) Y3 (acc ++ (s.extract e at').data.toList) W4 := hb3.keep hk4 (by omega) (fun g hg hx => by subst hx; exact hYn3 _ (by omega) hg)
    have k1 : W4.cell? ⟨n + 1, 0, none⟩ = some (.string by') := hk4.cell d1 (by show ¬ (n + 1 = n + 4); omega)
    have hk34 : Keep (fun b => (b = n + 3 ∨ b = n + 4) ∨ Y b) W2 W4 := (hk3.weaken (fun _ _ h => by rcases h with h | h; exact .inl (.inl h); exact .inr h)).trans (hk4.weaken (fun _ _ h => .inl (.inr h)))
    have HW4 := Lib.hid (And.intro hW4 (And.intro he4 (And.intro hb4 (And.intro hk34 k1))))
    have HTT := Lib.hid hT
    have hTle : T ≤ wide := by rw [hT]; split <;> omega
    clear hT hW4 he4 hb4 hk34 k1 hk4
    have hTx : (whole = false → T = wide) ∧ (whole = true → T = 1) := by
      have := HTT.out
      constructor
      · intro h; rw [this, h]; rfl
      · intro h; rw [this, h]; rfl
    have hAcc2 := hAcc.out
    have hmulT : T * by'.size ≤ wide * by'.size := Nat.mul_le_mul_right _ hTle
    have HmT := Lib.hid hmulT
    clear hmulT
    cases whole
    all_goals
      simp at hTx
      have HTx := Lib.hid hTx
      clear hTx
      gi_wp2_with fail
      gi_loopw [27] (fun v wr => ∃ (k : Nat) (Y4 : Nat → Prop), k ≤ T ∧ v = .int .i64 k ∧ Bld (n + 3) Y4 (acc ++ (s.extract e at').data.toList ++ rep by'.data.toList k) wr ∧ (∀ b, Y4 b → Y b ∨ W2.heap.size ≤ b) ∧ Keep (fun b => (b = n + 3 ∨ b = n + 4) ∨ Y b) W2 wr ∧ W2.heap.size ≤ wr.heap.size ∧ wr.heap[n + 4]? = some (.cells #[.int .i64 ((at' + wide : Nat) : Int)] 3 (0, 0)) ∧ wr.cell? ⟨n + 1, 0, none⟩ = some (.string by'))
        (fun v _ => T - (RowKit.intOf v).toNat)
      case atStart =>
        obtain ⟨hW4, he4, hb4, hk34, k1⟩ := HW4.out
        rw [hW4]
        exact ⟨0, Y3, by omega, rfl, by simpa [rep] using hb4, hY3, hk34, hk34.size, he4, k1⟩
      case round =>
        obtain ⟨k, Y4, hkT, rfl, hb5, hY4, hk5, hsz5, he5, k5⟩ := hrel
        have hYn4 : ∀ b, b < n + 6 → ¬ Y4 b := fun b hb hy => by rcases hY4 b hy with h | h; exact hYn b hb h; omega
        have Hrel := Lib.hid (And.intro hb5 (And.intro hY4 (And.intro hk5 (And.intro he5 hYn4))))
        clear hb5 hY4 hk5 he5 hYn4
        by_cases hlt : k < T
        · have hlt' := hlt
          rw [HTx.out] at hlt'
          have hlen5 : (acc ++ (s.extract e at').data.toList ++ rep by'.data.toList k).length + by'.size ≤ 140737488355328 := by
            have e1 : (s.extract e at').data.toList.length = at' - e := by rw [← Lib.size_eq]; exact seglen
            have e2 : by'.data.toList.length = by'.size := (Lib.size_eq by').symm
            simp only [List.length_append, rep_len, e1, e2]
            have h1 : (k + 1) * by'.size ≤ T * by'.size := Nat.mul_le_mul_right _ hlt
            rw [Nat.add_mul] at h1
            have := HmT.out
            omega
          gi_wp2_with fail
          refine (CallsIn.inRound l (callsIn_wide.2 (writeString_x (n + 3) Y4 _ by' wr Hrel.out.1 hlen5))).mono ?_
          rintro e2 W6 ⟨rfl, Y6, hb6, hk6, hY6⟩
          obtain ⟨_, hY4, hk5, he5, hYn4⟩ := Hrel.out
          have he6 := hk6.heap he5 (fun h => by rcases h with h | h; omega; exact hYn4 _ (by omega) h)
          have k6 := hk6.cell k5 (by show ¬ (n + 1 = n + 3 ∨ Y4 (n + 1)); intro h; rcases h with h | h; omega; exact hYn4 _ (by omega) h)
          have hkk : Keep (fun b => (b = n + 3 ∨ b = n + 4) ∨ Y b) W2 W6 := ⟨hk6.os.trans hk5.os, hk6.tape.trans hk5.tape, hk6.output.trans hk5.output, Nat.le_trans hk5.size hk6.size, fun b hb hx => (hk6.same b (Nat.lt_of_lt_of_le hb hk5.size) (fun h => by
            rcases h with h | h
            · exact hx (.inl (.inl h))
            · rcases hY4 b h with h | h
              · exact hx (.inr h)
              · omega)).trans (hk5.same b hb hx)⟩
          have Hend := Lib.hid (And.intro hb6 (And.intro hkk (And.intro he6 (And.intro k6 hY6))))
          clear hb6 hkk he6 k6 hY6 he5 hk5 hk6
          gi_wp2_with fail
          go_roundw
          case rel =>
            obtain ⟨hb6, hkk, he6, k6, hY6⟩ := Hend.out
            exact ⟨k + 1, Y6, by omega, by go_num, by simpa [rep] using hb6, fun b hb => by
              rcases hY6 b hb with h | h
              · exact hY4 b h
              · exact .inr (by omega), hkk, hkk.size, he6, k6⟩
          case measure => simp [RowKit.intOf]; omega
        · have hge : T ≤ k := by omega
          have hge' := hge
          rw [HTx.out] at hge'
          obtain rfl : k = T := by omega
          gi_wp2_with fail
          obtain ⟨hb5, hY4, hk5, he5, _⟩ := Hrel.out
          refine ⟨Y4, hk5, hY4, ?_⟩
          show Bld (n + 3) Y4 (mendF s by' _ (pre ++ [(at', wide)])).1 wr ∧ wr.heap[n + 4]? = some (.cells #[.int .i64 (mendF s by' _ (pre ++ [(at', wide)])).2] 3 (0, 0))
          rw [Hsnoc.out]
          refine ⟨?_, he5⟩
          have e3 := HTT.out
          simp only [mendStep]
          rw [← e3]
          exact hb5
  case done =>
    intro D Y W hD hDd hi hY hk
    have hch := chain_end s by' whole (bads s) [] [] 0 (by rw [List.append_nil]; exact HC.out) (by omega) (by simp)
    obtain ⟨g1, _, g5⟩ := hch
    change (mendF s by' whole (bads s)).2 ≤ s.size at g1
    change (mendF s by' whole (bads s)).1.length ≤ (mendF s by' whole (bads s)).2 + (mendF s by' whole (bads s)).2 * by'.size at g5
    obtain ⟨hb, he⟩ := hi
    have HL : Hid (mendL s by' whole = (mendF s by' whole (bads s)).1 ++ (s.extract (mendF s by' whole (bads s)).2 s.size).data.toList) := Lib.hid rfl
    generalize mendF s by' whole (bads s) = st at *
    obtain ⟨acc, e⟩ := st
    simp only at hb he g1 g5 HL
    have c0 : W.cell? ⟨n, 0, none⟩ = some (.string s) := hk.cell (p := ⟨n, 0, none⟩) (by rw [Lib.cell_of_heap b0]; rfl) (by show ¬ (n = n + 3 ∨ n = n + 4); omega)
    have ce : W.cell? ⟨n + 4, 0, none⟩ = some (.int .i64 e) := by rw [Lib.cell_of_heap he]; rfl
    have tl := tail_size s e g1
    have hmul3 : e * by'.size ≤ s.size * by'.size := Nat.mul_le_mul_right _ g1
    have hlen : acc.length + (s.extract e s.size).size ≤ 140737488355328 := by rw [tl]; omega
    have Hlen := Lib.hid hlen
    clear hlen hmul3 g5 tl
    have hszW := hk.size
    gi_wp2_with fail
    refine (callsIn_wide.2 (writeString_x (n + 3) Y acc (s.extract e s.size) W hb Hlen.out)).mono ?_
    rintro e1 W3 ⟨rfl, Y3, hb3, hk3, hY3⟩
    gi_wp2_with fail
    refine (callsIn_wide.2 (string_x (n + 3) Y3 _ W3 hb3 n (by have := hk3.size; omega) (by omega) (fun g hg => by rcases hY3 g hg with h | h; have := (hY g h).1; omega; omega))).mono ?_
    rintro e2 W5 ⟨rfl, hb5, ho5⟩
    gi_wp2_with fail
    have hD3 : W3.heap[D]? = some (.deferred (some [])) := hk3.heap hDd (fun h => by rcases h with h | h; omega; exact (hY _ h).2 rfl)
    have hD5 : W5.heap[D]? = some (.deferred (some [])) := ho5 D _ hD3 (by simp; omega) (by intro c fz h; cases h)
    refine leaves_marks (Ds := [D]) (by simp) (fun D' h => by simp at h; subst h; exact hD5) (fun W' hk' => ⟨_, results_tmp rfl _ _ _, ?_, ?_⟩)
    · rw [HL.out]; simp
    · rw [hn]
      have h1 : Below n w W3 := hbw.trans ((hk.below (by omega) (fun b hb => by omega)).trans (hk3.below (by omega) (fun b hb => by rcases hb with hb | hb; omega; have := (hY _ hb).1; omega)))
      exact h1.trans (hb5.trans (hk'.below (by have := hb5.size; have := hk3.size; omega) (fun b hb => by simp at hb; omega)))
end Go.Proofs.YthcfpmjkfnoofaaDoor
