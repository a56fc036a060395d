/- props: take. WRITTEN by wip/tools/gen_jm.py. -/
import Derived.Test.YtcfhblbmpbfoaaaGreatDoorJix
import Derived.Test.YtcfhblbmpbfoaaaGreatDoorGv9
import Derived.Deep.QuietTactic
import Derived.BigQuiet
import Derived.StillTailTactics
namespace Go.Proofs.YtcfhblbmpbfoaaaGreatDoor
open Go Go.RowKit Go.Kt Go.Kt.Rg Go.Maps

def takeP (line : Nat) (S : RdS) : List (List UInt8) → Nat × RdS
  | [] => (0, S)
  | x :: t => if x ≠ [99, 108, 97, 115, 115] ∧ x ≠ [107, 105, 110, 100] ∧ x ≠ [102, 111, 108, 100] ∧ x ≠ [100, 101, 99, 111, 109, 112] then (12, S) else if t.length < 2 then (2, S) else
      if x = [99, 108, 97, 115, 115] then ((rowP clsP t).1, { S with cs := S.cs ++ [(rowP clsP t).2] }) else if x = [107, 105, 110, 100] then ((rowP kndZ t).1, { S with ks := S.ks ++ [(rowP kndZ t).2] }) else
        if x = [102, 111, 108, 100] then foldP S t else dcmP line S t
theorem StrS.tail {g off n cap : Nat} {x : List UInt8} {t : List (List UInt8)} {w : World} (h1 : n = t.length) (h2 : n + 1 ≤ cap) (h3 : cap ≤ 4611686018427387904) (hc : ∀ i y, (x :: t)[i]? = some y → w.cell? ⟨g, off + i, none⟩ = some (.string ⟨y.toArray⟩)) :
    StrS (.slice (some ⟨g, off + 1, none⟩) n (cap - 1)) t w := by
  subst h1
  refine ⟨g, off + 1, cap - 1, rfl, by omega, by omega, fun i y hy => ?_⟩
  have := hc (i + 1) y (by simpa using hy)
  rw [show off + 1 + i = off + (i + 1) by omega]
  exact this

set_option maxRecDepth 100000 in
set_option maxHeartbeats 4000000 in
theorem ptake {B0 : Nat} {ρ : Nat → Nat} {R : RdB} {line n m : Nat} {S : RdS} {cv kv : Value} (w : World) (hR : RdW B0 ρ R line n m S cv kv w) (ws : List (List UInt8)) (sv : Value) (hS : StrS sv ws w) (hz : ∀ x ∈ ws, x ≠ [] ∧ x.length ≤ 1048576) (hE : PEnv w) (hn : n ≤ 1000000) (hcs : S.cs.length ≤ 65536) (hks : S.ks.length ≤ 65536) :
    Calls Tryz.prog 54 #[.pointer (some ⟨R.g, 0, none⟩), sv] w fun e w' => RdOut B0 ρ R line (n + 2) m (takeP line S ws).1 (takeP line S ws).2 w e w' := by
  obtain ⟨g, off, cap, rfl, hcap, hcap2, hc⟩ := hS
  cases ws with
  | nil =>
    simp only [List.length_nil] at hcap ⊢
    have HR := Lib.hid hR
    clear hR hE hc hcap hcap2
    go_enter Tryz.func54, Tryz.ntmps54
    go_wp2
    go_ret
    exact ⟨rfl, Keep.refl _ _, _, _, _, _, HR.out.mono (by omega), fun _ _ => rfl, fun _ => rfl⟩
  | cons x t =>
    obtain ⟨q, hq⟩ : ∃ q, t.length = q := ⟨_, rfl⟩
    have hx := hz x List.mem_cons_self
    have hzt : ∀ y ∈ t, y ≠ [] ∧ y.length ≤ 1048576 := fun y hy => hz y (List.mem_cons_of_mem _ hy)
    have c0 : w.cell? ⟨g, off, none⟩ = some (.string ⟨x.toArray⟩) := hc 0 x rfl
    have cs0 : w.cell? ⟨R.g, 0, none⟩ = some (.map (some R.bs)) := by rw [Lib.cell_of_heap hR.cell]; rfl
    have hkey : keyOf Tryz.prog 9 (.string ⟨x.toArray⟩) = some (.string x) := by
      have := Go.WideMaps.keyOf_string_mk (P := Tryz.prog) Tryz.underlying9 (s := ⟨x.toArray⟩) (by rw [bsize]; have := hx.2; unfold maxLen; omega)
      simpa using this
    rw [List.length_cons, hq] at hcap ⊢
    have hl1 := fun k => (hR.s.2.keep (X := fun _ => False) (Keep.of_all (below_drewN (Below.refl _ w) k)) (fun h => h)).look (string_keyed Tryz.underlying9) Tryz.underlying87 (z := .nilFunc) rfl hkey
    have HTL := Lib.hid (fun h => StrS.tail (w := w) hq.symm h hcap2 hc)
    have HR := Lib.hid hR
    have HE := Lib.hid hE
    clear hR hE hc hz hkey
    by_cases hnone : x ≠ [99, 108, 97, 115, 115] ∧ x ≠ [107, 105, 110, 100] ∧ x ≠ [102, 111, 108, 100] ∧ x ≠ [100, 101, 99, 111, 109, 112]
    · have HX : Hid (takeP line S (x :: t) = (12, S)) := Lib.hid (by unfold takeP; exact if_pos hnone)
      have hs : saysF R.g (.string x) = none := by simp [saysF, hnone]
      rw [hs] at hl1
      replace hl1 : ∀ k, (Instr.lookup 87 (.map (some R.bs)) (.string ⟨x.toArray⟩) true).run Tryz.prog (w.drewN k) = .ok (.tuple #[.nilFunc, .bool false]) (w.drewN k) := hl1
      clear hnone hs hx hzt HTL
      go_enter Tryz.func54, Tryz.ntmps54
      go_wp2_with fail
      go_quiet (fail)
      go_wp2
      go_ret
      rw [HX.out]
      exact ⟨rfl, Keep.of_all (below_drewN (Below.refl _ _) _), _, _, _, _, (HR.out.below (below_drewN (Below.refl _ _) _)).mono (by omega), fun _ _ => rfl, fun e => by cases e⟩
    · by_cases h2 : t.length < 2
      · obtain ⟨fv, hs⟩ : ∃ fv, saysF R.g (.string x) = some (saysV R.g fv) := by
          unfold saysF
          simp only
          split
          · exact ⟨_, rfl⟩
          · split
            · exact ⟨_, rfl⟩
            · split
              · exact ⟨_, rfl⟩
              · split
                · exact ⟨_, rfl⟩
                · rename_i h1 h2 h3 h4
                  exact absurd ⟨h1, h2, h3, h4⟩ hnone
        have HX : Hid (takeP line S (x :: t) = (2, S)) := Lib.hid (by unfold takeP; exact (if_neg hnone).trans (if_pos h2))
        rw [hs] at hl1
        replace hl1 : ∀ k, (Instr.lookup 87 (.map (some R.bs)) (.string ⟨x.toArray⟩) true).run Tryz.prog (w.drewN k) = .ok (.tuple #[.func (.func fv) #[.pointer (some ⟨R.g, 0, none⟩)] #[], .bool true]) (w.drewN k) := hl1
        have hq3 : (q : Int) + 1 < 3 := by omega
        clear hnone hs hx hzt HTL h2
        go_enter Tryz.func54, Tryz.ntmps54
        go_wp2_with fail
        go_quiet (fail)
        go_wp2
        go_ret
        rw [HX.out]
        exact ⟨rfl, Keep.of_all (below_drewN (Below.refl _ _) _), _, _, _, _, (HR.out.below (below_drewN (Below.refl _ _) _)).mono (by omega), fun _ _ => rfl, fun e => by cases e⟩
      · have hq3 : (3 : Int) ≤ (q : Int) + 1 := by omega
        have HQ2 : Hid (2 ≤ t.length) := Lib.hid (by omega)
        have HZT := Lib.hid hzt
        have HCC := Lib.hid (And.intro hcs hks)
        by_cases hw1 : x = [99, 108, 97, 115, 115]
        · have hs : saysF R.g (.string x) = some (saysV R.g 92) := by rw [hw1]; rfl
          have HX : Hid (takeP line S (x :: t) = ((rowP clsP t).1, { S with cs := S.cs ++ [(rowP clsP t).2] })) := Lib.hid (by unfold takeP; exact (if_neg hnone).trans ((if_neg h2).trans (if_pos hw1)))
          rw [hs] at hl1
          replace hl1 : ∀ k, (Instr.lookup 87 (.map (some R.bs)) (.string ⟨x.toArray⟩) true).run Tryz.prog (w.drewN k) = .ok (.tuple #[.func (.func 92) #[.pointer (some ⟨R.g, 0, none⟩)] #[], .bool true]) (w.drewN k) := hl1
          have q5 : (1 : Int) ≤ (q : Int) + 1 := by omega
          have q6 : ¬ cap = 1 := by omega
          have q7 : ((q : Int) + 1) ≤ cap := by omega
          rw [HX.out]
          clear hnone hs hx hzt h2 hcs hks hw1 
          go_enter Tryz.func54, Tryz.ntmps54
          go_wp2_with fail
          go_quiet (fail)
          have HRN := Lib.hid (HR.out.below (below_drewN (Below.refl _ w) nq))
          have HSN := Lib.hid ((HTL.out hcap).below (below_drewN (Below.refl _ w) nq))
          have HEN := Lib.hid (HE.out.below (below_drewN (Below.refl _ w) nq))
          have CC := Lib.hid (pclassR (w.drewN nq) HRN.out t _ HSN.out HZT.out HQ2.out HEN.out HCC.out.1)
          obtain ⟨W1, hWN⟩ : ∃ W1, w.drewN nq = W1 := ⟨_, rfl⟩
          have HBW : Hid (Below w.heap.size w W1) := Lib.hid (by rw [← hWN]; exact below_drewN (Below.refl _ w) nq)
          rw [hWN] at CC ⊢
          clear HRN HSN HEN hl1 hWN c0 cs0
          go_wp2_with fail
          refine CC.out.mono ?_
          rintro e w2 ⟨rfl, hbo, ρ', S', cv', kv', hR', hρ', hE'⟩
          have HO := Lib.hid (Keep.trans (Keep.of_all HBW.out) hbo)
          have HO2 := Lib.hid (And.intro hR' (And.intro (fun b (hb : b < w.heap.size) => hρ' b (Nat.lt_of_lt_of_le hb HBW.out.size)) hE'))
          clear hbo hR' hρ' hE'
          go_wp2
          go_ret
          exact ⟨rfl, HO.out, _, _, _, _, HO2.out.1.mono (by omega), HO2.out.2.1, HO2.out.2.2⟩
        · by_cases hw2 : x = [107, 105, 110, 100]
          · have hs : saysF R.g (.string x) = some (saysV R.g 93) := by rw [hw2]; rfl
            have HX : Hid (takeP line S (x :: t) = ((rowP kndZ t).1, { S with ks := S.ks ++ [(rowP kndZ t).2] })) := Lib.hid (by unfold takeP; exact (if_neg hnone).trans ((if_neg h2).trans ((if_neg hw1).trans (if_pos hw2))))
            rw [hs] at hl1
            replace hl1 : ∀ k, (Instr.lookup 87 (.map (some R.bs)) (.string ⟨x.toArray⟩) true).run Tryz.prog (w.drewN k) = .ok (.tuple #[.func (.func 93) #[.pointer (some ⟨R.g, 0, none⟩)] #[], .bool true]) (w.drewN k) := hl1
            have q5 : (1 : Int) ≤ (q : Int) + 1 := by omega
            have q6 : ¬ cap = 1 := by omega
            have q7 : ((q : Int) + 1) ≤ cap := by omega
            rw [HX.out]
            clear hnone hs hx hzt h2 hcs hks hw2 hw1
            go_enter Tryz.func54, Tryz.ntmps54
            go_wp2_with fail
            go_quiet (fail)
            have HRN := Lib.hid (HR.out.below (below_drewN (Below.refl _ w) nq))
            have HSN := Lib.hid ((HTL.out hcap).below (below_drewN (Below.refl _ w) nq))
            have HEN := Lib.hid (HE.out.below (below_drewN (Below.refl _ w) nq))
            have CC := Lib.hid (pkindR (w.drewN nq) HRN.out t _ HSN.out HZT.out HQ2.out HEN.out HCC.out.2)
            obtain ⟨W1, hWN⟩ : ∃ W1, w.drewN nq = W1 := ⟨_, rfl⟩
            have HBW : Hid (Below w.heap.size w W1) := Lib.hid (by rw [← hWN]; exact below_drewN (Below.refl _ w) nq)
            rw [hWN] at CC ⊢
            clear HRN HSN HEN hl1 hWN c0 cs0
            go_wp2_with fail
            refine CC.out.mono ?_
            rintro e w2 ⟨rfl, hbo, ρ', S', cv', kv', hR', hρ', hE'⟩
            have HO := Lib.hid (Keep.trans (Keep.of_all HBW.out) hbo)
            have HO2 := Lib.hid (And.intro hR' (And.intro (fun b (hb : b < w.heap.size) => hρ' b (Nat.lt_of_lt_of_le hb HBW.out.size)) hE'))
            clear hbo hR' hρ' hE'
            go_wp2
            go_ret
            exact ⟨rfl, HO.out, _, _, _, _, HO2.out.1.mono (by omega), HO2.out.2.1, HO2.out.2.2⟩
          · by_cases hw3 : x = [102, 111, 108, 100]
            · have hs : saysF R.g (.string x) = some (saysV R.g 94) := by rw [hw3]; rfl
              have HX : Hid (takeP line S (x :: t) = foldP S t) := Lib.hid (by unfold takeP; exact (if_neg hnone).trans ((if_neg h2).trans ((if_neg hw1).trans ((if_neg hw2).trans (if_pos hw3)))))
              rw [hs] at hl1
              replace hl1 : ∀ k, (Instr.lookup 87 (.map (some R.bs)) (.string ⟨x.toArray⟩) true).run Tryz.prog (w.drewN k) = .ok (.tuple #[.func (.func 94) #[.pointer (some ⟨R.g, 0, none⟩)] #[], .bool true]) (w.drewN k) := hl1
              have q5 : (1 : Int) ≤ (q : Int) + 1 := by omega
              have q6 : ¬ cap = 1 := by omega
              have q7 : ((q : Int) + 1) ≤ cap := by omega
              rw [HX.out]
              clear hnone hs hx hzt h2 hcs hks hw3 hw1 hw2
              go_enter Tryz.func54, Tryz.ntmps54
              go_wp2_with fail
              go_quiet (fail)
              have HRN := Lib.hid (HR.out.below (below_drewN (Below.refl _ w) nq))
              have HSN := Lib.hid ((HTL.out hcap).below (below_drewN (Below.refl _ w) nq))
              have HEN := Lib.hid (HE.out.below (below_drewN (Below.refl _ w) nq))
              have CC := Lib.hid (pfoldR (w.drewN nq) HRN.out t _ HSN.out HZT.out HQ2.out HEN.out hn)
              obtain ⟨W1, hWN⟩ : ∃ W1, w.drewN nq = W1 := ⟨_, rfl⟩
              have HBW : Hid (Below w.heap.size w W1) := Lib.hid (by rw [← hWN]; exact below_drewN (Below.refl _ w) nq)
              rw [hWN] at CC ⊢
              clear HRN HSN HEN hl1 hWN c0 cs0
              go_wp2_with fail
              refine CC.out.mono ?_
              rintro e w2 ⟨rfl, hbo, ρ', S', cv', kv', hR', hρ', hE'⟩
              have HO := Lib.hid (Keep.trans (Keep.of_all HBW.out) hbo)
              have HO2 := Lib.hid (And.intro hR' (And.intro (fun b (hb : b < w.heap.size) => hρ' b (Nat.lt_of_lt_of_le hb HBW.out.size)) hE'))
              clear hbo hR' hρ' hE'
              go_wp2
              go_ret
              exact ⟨rfl, HO.out, _, _, _, _, HO2.out.1.mono (by omega), HO2.out.2.1, HO2.out.2.2⟩
            · have hw4 : x = [100, 101, 99, 111, 109, 112] := Decidable.byContradiction fun h4 => hnone ⟨hw1, hw2, hw3, h4⟩
              have hs : saysF R.g (.string x) = some (saysV R.g 95) := by rw [hw4]; rfl
              have HX : Hid (takeP line S (x :: t) = dcmP line S t) := Lib.hid (by unfold takeP; exact (if_neg hnone).trans ((if_neg h2).trans ((if_neg hw1).trans ((if_neg hw2).trans (if_neg hw3)))))
              rw [hs] at hl1
              replace hl1 : ∀ k, (Instr.lookup 87 (.map (some R.bs)) (.string ⟨x.toArray⟩) true).run Tryz.prog (w.drewN k) = .ok (.tuple #[.func (.func 95) #[.pointer (some ⟨R.g, 0, none⟩)] #[], .bool true]) (w.drewN k) := hl1
              have q5 : (1 : Int) ≤ (q : Int) + 1 := by omega
              have q6 : ¬ cap = 1 := by omega
              have q7 : ((q : Int) + 1) ≤ cap := by omega
              rw [HX.out]
              clear hnone hs hx hzt h2 hcs hks hw4 hw1 hw2 hw3
              go_enter Tryz.func54, Tryz.ntmps54
              go_wp2_with fail
              go_quiet (fail)
              have HRN := Lib.hid (HR.out.below (below_drewN (Below.refl _ w) nq))
              have HSN := Lib.hid ((HTL.out hcap).below (below_drewN (Below.refl _ w) nq))
              have HEN := Lib.hid (HE.out.below (below_drewN (Below.refl _ w) nq))
              have CC := Lib.hid (pdecR (w.drewN nq) HRN.out t _ HSN.out HZT.out HQ2.out HEN.out hn)
              obtain ⟨W1, hWN⟩ : ∃ W1, w.drewN nq = W1 := ⟨_, rfl⟩
              have HBW : Hid (Below w.heap.size w W1) := Lib.hid (by rw [← hWN]; exact below_drewN (Below.refl _ w) nq)
              rw [hWN] at CC ⊢
              clear HRN HSN HEN hl1 hWN c0 cs0
              go_wp2_with fail
              refine CC.out.mono ?_
              rintro e w2 ⟨rfl, hbo, ρ', S', cv', kv', hR', hρ', hE'⟩
              have HO := Lib.hid (Keep.trans (Keep.of_all HBW.out) hbo)
              have HO2 := Lib.hid (And.intro hR' (And.intro (fun b (hb : b < w.heap.size) => hρ' b (Nat.lt_of_lt_of_le hb HBW.out.size)) hE'))
              clear hbo hR' hρ' hE'
              go_wp2
              go_ret
              exact ⟨rfl, HO.out, _, _, _, _, HO2.out.1.mono (by omega), HO2.out.2.1, HO2.out.2.2⟩
end Go.Proofs.YtcfhblbmpbfoaaaGreatDoor
