/- props: the length of a full decomposition: the walk. -/
import Derived.Test.YthhepebkfokddaaGreatDoorGx12
namespace Go.Proofs.YthhepebkfokddaaGreatDoor
open Go Go.RowKit Go.Kt Go.Kt.Rg Go.Maps
theorem leV_put (le : LeT) (x : Nat) (v : Int) (kl : Lit) (hk : WideAt.IsKeyLit kl) : putF (ptF (leV le)) (.int .i32 (x : Int)) (.int .i64 v) kl = ptF (leV (updN le x v)) kl := by
 rw [ptF_put _ _ _ _ hk]
 congr 1
 funext y
 unfold leV updN
 by_cases e : y = x
 ·rw [if_pos e, if_pos e]; rfl
 ·rw [if_neg e, if_neg e]
def LenI (B0 : Nat) (ρ : Nat → Nat) (R : RdB) (line n m : Nat) (L : List Nat) (S : RdS) (cv kv : Value) (g : LeT → Nat → Int × LeT) (x : Nat) (own : List Nat) (le1 : LeT) (R0 : Int × LeT) (w : World) (i : Nat) (sum : Int) (wr : World) : Prop :=
 i ≤ own.length ∧ (0 ≤ sum ∧ sum ≤ 9) ∧ Keep (fun b => b = R.bn) w wr ∧ ∃ (le : LeT) (mi : Nat), LeOk le ∧ LeLe le1 le ∧ RdW B0 ρ R line n mi { S with le := le } cv kv wr ∧ mi + 2 * unk L le ≤ m + 1 + 2 * unk L le1 ∧ lenL g x (own.drop i) sum le = R0
set_option maxRecDepth 100000 in
set_option maxHeartbeats 4000000 in
theorem plen {B0 : Nat} {R : RdB} {line n : Nat} (L : List Nat) : ∀ (f : Nat) (w : World) (ρ : Nat → Nat) (m : Nat) (S : RdS) (cv kv : Value) (x : Nat), RdW B0 ρ R line n m S cv kv w → (∀ y, (S.ds y).isSome = true → y ∈ L) → (∀ y l, S.ds y = some l → l.length ≤ 9 ∧ ∀ z ∈ l, z ≤ 1114111) →
 LeOk S.le → unk L S.le < f → x ≤ 1114111 → m + 2 * unk L S.le ≤ 1099511627776 →
 Calls Tryz.prog 48 #[.pointer (some ⟨R.g, 0, none⟩), .int .i32 (x : Nat)] w fun e w' => LenOut B0 ρ R line n m L S cv kv (lenF S.ds f S.le x) w e w'
 | 0, w, ρ, m, S, cv, kv, x, hR, hL, hds, hle, hu, hx, hm => by omega
 | f + 1, w, ρ, m, S, cv, kv, x, hR, hL, hds, hle, hu, hx, hm => by
   have HR := Lib.hid hR
   have HL := Lib.hid (And.intro hL (And.intro hds (And.intro hle (And.intro hu hm))))
   have CS := Lib.hid (psyl (x : Int) w)
   cases hsy : sylP (x : Int) with
   | true =>
     have hr : 44032 ≤ (x : Int) ∧ (x : Int) < 55204 := by simpa [sylP] using hsy
     have HX : Hid (lenF S.ds (f + 1) S.le x = ((((partsP (x - 44032)).length : Nat) : Int), S.le)) := Lib.hid (by rw [lenF]; exact if_pos hsy)
     have hxx : (44032 + ((x - 44032 : Nat) : Int)) = (x : Int) := by omega
     have CP := pparts (x - 44032) (by omega) w
     rw [hxx] at CP
     have CP := Lib.hid CP
     rw [hsy] at CS
     obtain ⟨k, hk⟩ : ∃ k, (partsP (x - 44032)).length = k := ⟨_, rfl⟩
     rw [hk] at CP HX
     clear hR hL hds hle hu hm hsy hr hxx hk
     go_enter Tryz.func48, Tryz.ntmps48
     go_wp2_with fail
     refine CS.out.mono ?_
     rintro e w1 ⟨rfl, rfl⟩
     go_wp2_with fail
     refine CP.out.mono ?_
     rintro e w2 ⟨ao, cp, rfl, ho, hb⟩
     have HB := Lib.hid hb
     clear ho hb
     go_wp2
     go_ret
     unfold LenOut
     rw [HX.out]
     exact ⟨rfl, ⟨m, HR.out.below HB.out, Nat.le_refl _⟩, Keep.of_all HB.out⟩
   | false =>
     rw [hsy] at CS
     have c4 : w.cell? ⟨R.g, 4, none⟩ = some (.map (some R.bd)) := by rw [Lib.cell_of_heap hR.cell]; rfl
     have c7 : w.cell? ⟨R.g, 7, none⟩ = some (.map (some R.bn)) := by rw [Lib.cell_of_heap hR.cell]; rfl
     have hkey : keyOf Tryz.prog 21 (.int .i32 (x : Nat)) = some (.int .i32 (x : Nat)) := keyOf_int_mk Tryz.underlying21 (WalkArith.wf_i32 (n := (x : Int)) ⟨by omega, by omega⟩)
     obtain ⟨hB, vs, hM, hs, hp⟩ := hR.d
     have hl1 := hM.look (int_keyed Tryz.underlying21) Tryz.underlying54 (z := .slice none 0 0) rfl hkey
     have hl2 := hR.e.2.look (int_keyed Tryz.underlying21) Tryz.underlying55 (z := .int .i64 0) rfl hkey
     rw [ptF_at] at hl1 hl2
     have hsx := hs x
     cases hd : S.ds x with
     | none =>
       have HX : Hid (lenF S.ds (f + 1) S.le x = (1, S.le)) := Lib.hid (by rw [lenF, if_neg (by rw [hsy]; exact fun h => by cases h), hd])
       have hv : vs x = none := by rw [hd] at hsx; cases h : vs x with | none => rfl | some u => rw [h] at hsx; cases hsx
       rw [hv] at hl1
       replace hl1 : (Instr.lookup 54 (.map (some R.bd)) (.int .i32 (x : Nat)) true).run Tryz.prog w = .ok (.tuple #[.slice none 0 0, .bool false]) w := hl1
       clear hR hL hds hle hu hm hsy hl2 hsx hs hp hM hB hkey hv hd c7
       go_enter Tryz.func48, Tryz.ntmps48
       go_wp2_with fail
       refine CS.out.mono ?_
       rintro e w1 ⟨rfl, rfl⟩
       go_wp2
       go_ret
       unfold LenOut
       rw [HX.out]
       exact ⟨rfl, ⟨m, HR.out, Nat.le_refl _⟩, Keep.refl _ _⟩
     | some own =>
       obtain ⟨v, hv⟩ : ∃ v, vs x = some v := by rw [hd] at hsx; cases h : vs x with | none => rw [h] at hsx; cases hsx | some u => exact ⟨u, rfl⟩
       rw [hv] at hl1
       obtain ⟨b, off, cap, hvv, hcap, hcap2, hb0, hbl, hcl⟩ := hp x v own hv hd
       subst hvv
       replace hl1 : (Instr.lookup 54 (.map (some R.bd)) (.int .i32 (x : Nat)) true).run Tryz.prog w = .ok (.tuple #[.slice (some ⟨b, off, none⟩) own.length cap, .bool true]) w := hl1
       cases hn : S.le x with
       | some z =>
         have HX : Hid (lenF S.ds (f + 1) S.le x = (z, S.le)) := Lib.hid (by rw [lenF, if_neg (by rw [hsy]; exact fun h => by cases h), hd, hn])
         have hvn : leV S.le x = some (.int .i64 z) := by unfold leV; rw [hn]; rfl
         rw [hvn] at hl2
         replace hl2 : (Instr.lookup 55 (.map (some R.bn)) (.int .i32 (x : Nat)) true).run Tryz.prog w = .ok (.tuple #[.int .i64 z, .bool true]) w := hl2
         clear hR hL hds hle hu hm hsy hsx hs hp hM hB hkey hv hd hn hvn hcl hb0 hbl hcap hcap2
         go_enter Tryz.func48, Tryz.ntmps48
         go_wp2_with fail
         refine CS.out.mono ?_
         rintro e w1 ⟨rfl, rfl⟩
         go_wp2
         go_ret
         unfold LenOut
         rw [HX.out]
         exact ⟨rfl, ⟨m, HR.out, Nat.le_refl _⟩, Keep.refl _ _⟩
       | none =>
         have HX : Hid (lenF S.ds (f + 1) S.le x = lenL (lenF S.ds f) x own 0 (updN S.le x (-1))) := Lib.hid (by rw [lenF, if_neg (by rw [hsy]; exact fun h => by cases h), hd, hn])
         have hvn : leV S.le x = none := by unfold leV; rw [hn]; rfl
         rw [hvn] at hl2
         replace hl2 : (Instr.lookup 55 (.map (some R.bn)) (.int .i32 (x : Nat)) true).run Tryz.prog w = .ok (.tuple #[.int .i64 0, .bool false]) w := hl2
         have hol := hds x own hd
         have hun := unk_upd L (hL x (by rw [hd]; rfl)) hn (-1)
         have HCL : Hid (∀ (i : Nat) (y : Nat), own[i]? = some y → w.cell? ⟨b, off + i, none⟩ = some (.int .i32 (y : Nat))) := Lib.hid hcl
         have HBN : Hid (b ≠ R.bn) := Lib.hid (fun e => by rw [e, hR.e.1] at hb0; cases hb0)
         obtain ⟨R0, hR0⟩ : ∃ R0, lenL (lenF S.ds f) x own 0 (updN S.le x (-1)) = R0 := ⟨_, rfl⟩
         rw [hR0] at HX
         obtain ⟨k, hk⟩ : ∃ k, own.length = k := ⟨_, rfl⟩
         rw [hk] at hl1 hcap
         have hk9 : k ≤ 9 := by rw [← hk]; exact hol.1
         have hE := hR.e.2
         have HOL := Lib.hid (And.intro hol (And.intro hun (And.intro hR0 hk)))
         clear hR hL hds hle hu hsy hsx hs hp hM hB hv hd hn hvn hcl hb0 hbl hcap2 hol hun hR0 hk
         go_enter Tryz.func48, Tryz.ntmps48
         go_wp2_with fail
         refine CS.out.mono ?_
         rintro e w1 ⟨rfl, rfl⟩
         go_wp2_with (first | (at_mapUpdate; refine wpList_put _ rfl _ _ _ 55 rfl 21 _ (int_keyed Tryz.underlying21) Tryz.underlying55 R.bn m (ptF (leV S.le)) rfl hE (by unfold maxLen; omega) _ _ _ rfl rfl hkey ?_; intro w2 hm2 hk2) | fail)
         have hm3 : MapG Tryz.prog 21 R.bn (m + 1) (ptF (leV (updN S.le x (-1)))) w2 := MapG.congr hm2 (leV_put S.le x (-1))
         have HL0 : Hid (LenI B0 ρ R line n m L S cv kv (lenF S.ds f) x own (updN S.le x (-1)) R0 w1 0 0 w2) := Lib.hid ⟨Nat.zero_le _, ⟨by omega, by omega⟩, hk2, _, m + 1, LeOk.upd HL.out.2.2.1 (by omega) (by omega), fun _ h => h, HR.out.newe hk2 hm3, Nat.le_refl _, HOL.out.2.2.1⟩
         clear hm2 hm3 hk2 hE hl1 hl2 c4 c7 CS
         go_loopw [9, 47] (fun s j wr => ∃ (i : Nat) (sum : Int), s = .int .i64 sum ∧ j = .int .i64 i ∧ LenI B0 ρ R line n m L S cv kv (lenF S.ds f) x own (updN S.le x (-1)) R0 w1 i sum wr)
          (fun _ j _ => k - (RowKit.intOf j).toNat)
         case atStart => exact ⟨0, 0, rfl, rfl, HL0.out⟩
         case round =>
          obtain ⟨i, sum, rfl, rfl, hI⟩ := hrel
          obtain ⟨hik, hsum, hkw, le, mi, hlo, hll, hRi, hmi, hR0⟩ := hI
          rw [HOL.out.2.2.2] at hik
          have HI := Lib.hid (And.intro hlo (And.intro hll (And.intro hRi (And.intro hmi (And.intro hR0 hkw)))))
          have hun := HOL.out.2.1
          have huf := HL.out.2.2.2.1
          have hmo := unk_mono L hll
          by_cases hlt : i < k
          ·have hlt' : (i : Int) < (k : Int) := by omega
           obtain ⟨y, hy⟩ : ∃ y, own[i]? = some y := ⟨_, List.getElem?_eq_getElem (by rw [HOL.out.2.2.2]; exact hlt)⟩
           have cy := hkw.cell (HCL.out i y hy) HBN.out
           have hyl := HOL.out.1.2 y (List.mem_of_getElem? hy)
           have hdr : own.drop i = y :: own.drop (i + 1) := by
            rw [List.drop_eq_getElem_cons (by rw [HOL.out.2.2.2]; exact hlt)]
            rw [(List.getElem?_eq_some_iff.1 hy).2]
           have CL := Lib.hid (plen L f wr ρ mi { S with le := le } cv kv y hRi HL.out.1 HL.out.2.1 hlo (by simp only; omega) hyl (by simp only; omega))
           have hgo := lenF_ok S.ds f le y hlo
           rw [hdr, lenL] at hR0
           simp only at CL
           obtain ⟨⟨r1, r2⟩, hr⟩ : ∃ r, lenF S.ds f le y = r := ⟨_, rfl⟩
           rw [hr] at CL hR0 hgo
           simp only at hR0 hgo
           have HG := Lib.hid hgo
           have HR0 := Lib.hid hR0
           clear hlo hll hRi hmi hR0 hkw hun huf hmo hlt hy hdr hr hgo
           go_wp2_with fail
           refine CL.out.mono ?_
           rintro e w3 hO
           obtain ⟨rfl, ⟨m2, hR3, hm3⟩, hk3⟩ := hO
           have H3 := Lib.hid (And.intro hR3 (And.intro hm3 hk3))
           clear hR3 hm3 hk3 CL cy
           by_cases h1 : r1 = -1
           ·subst h1
            have hR0 : ((-1, r2) : Int × LeT) = R0 := HR0.out
            have HRE := Lib.hid hR0
            clear hR0 HR0
            go_wp2
            go_ret
            unfold LenOut
            rw [HX.out, ← HRE.out]
            refine ⟨rfl, ⟨m2, H3.out.1, ?_⟩, HI.out.2.2.2.2.2.trans H3.out.2.2⟩
            have h1 := H3.out.2.1
            have h2 := HI.out.2.2.2.1
            have h3 := HOL.out.2.1
            simp only at h1 ⊢
            omega
           ·have b1 : (r1 == -1) = false := beq_eq_false_iff_ne.2 h1
            have hR0 : lenL (lenF S.ds f) x (own.drop (i + 1)) (min (sum + r1) 9) r2 = R0 := (if_neg h1).symm.trans HR0.out
            have HRE := Lib.hid hR0
            have hg1 := HG.out.1
            have q1 : IntKind.i64.wrap (sum + r1) = sum + r1 := IntWalk.i64_in _ (by omega)
            clear hR0 HR0
            go_wp2_with fail
            go_roundw
            case rel =>
             have h2 := HI.out.2.2.2.1
             have h4 := H3.out.2.1
             exact ⟨i + 1, min (sum + r1) 9, rfl, by go_num, by rw [HOL.out.2.2.2]; omega, by omega, HI.out.2.2.2.2.2.trans H3.out.2.2, r2, m2, HG.out.2.1, fun z hz => HG.out.2.2 z (HI.out.2.1 z hz), H3.out.1, by omega, HRE.out⟩
            case measure => simp [RowKit.intOf]; omega
          ·have hi : i = k := by omega
           subst hi
           have hdr : own.drop i = [] := List.drop_eq_nil_of_le (by rw [HOL.out.2.2.2]; exact Nat.le_refl _)
           rw [hdr, lenL] at hR0
           have HRE := Lib.hid hR0
           have c7 : wr.cell? ⟨R.g, 7, none⟩ = some (.map (some R.bn)) := by rw [Lib.cell_of_heap hRi.cell]; rfl
           have hE := hRi.e.2
           simp only at hE
           have hmb : mi < maxLen := by unfold maxLen; omega
           clear hlo hll hRi hR0 hkw hun huf hmo hdr hlt
           go_wp2_with (first | (at_mapUpdate; refine wpList_put _ rfl _ _ _ 55 rfl 21 _ (int_keyed Tryz.underlying21) Tryz.underlying55 R.bn mi (ptF (leV le)) rfl hE hmb _ _ _ rfl rfl hkey ?_; intro w3 hm3 hk3) | fail)
           go_ret
           have hm4 : MapG Tryz.prog 21 R.bn (mi + 1) (ptF (leV (updN le x sum))) w3 := MapG.congr hm3 (leV_put le x sum)
           unfold LenOut
           rw [HX.out, ← HRE.out]
           refine ⟨rfl, ⟨mi + 1, HI.out.2.2.1.newe hk3 hm4, ?_⟩, HI.out.2.2.2.2.2.trans hk3⟩
           have h2 := HI.out.2.2.2.1
           have h3 := HOL.out.2.1
           have h5 := unk_mono L (LeLe.upd le x sum)
           simp only
           omega
end Go.Proofs.YthhepebkfokddaaGreatDoor
