/- The document's answer for props: end: the walk. -/
import Derived.Test.YtgpbaeehajkebaaGreatDoorGv23
namespace Go.Proofs.YtgpbaeehajkebaaGreatDoor
open Go Go.RowKit Go.Kt Go.Kt.Rg Go.Maps
theorem tinfoBo : (Tryz.prog.info? 4).map (fun i => (i.zero, i.size, i.bytes)) = some (some (.bool false), 1, 1) := by kernel_rfl
theorem make_bo (W : World) (n : Nat) (hn : n ≤ 1000000) : ∃ w2, (Instr.makeSlice 88 (.int .i64 (n : Int)) (.int .i64 (n : Int))).run Tryz.prog W = .ok (.slice (some ⟨W.heap.size, 0, none⟩) n n) w2 ∧ BoO W.heap.size n (List.replicate n false) w2 ∧ Below W.heap.size W w2 := by
 obtain ⟨i, hi, hz, hs1, hb1⟩ := info_parts tinfoBo
 obtain ⟨w2, h1, h2, h3⟩ := run_makeSlice_full (P := Tryz.prog) (w := W) 0 88 4 i (.bool false) 1 Tryz.underlying88 hi hz hs1 .i64 .i64 n (by omega) (by rw [hb1]; omega) (by unfold maxLen; omega) (Nat.zero_le _)
 refine ⟨w2, h1, ⟨by simp, ?_, fun b hb => by simpa [Value.ownBlock] using hb.symm⟩, (keep_grown h3).below (Nat.le_refl _) (fun b hb => by cases hb)⟩
 have e : (madeCells (Value.bool false).cells (n * 1)).toList = encBo (List.replicate n false) := by
  rw [Nat.mul_one]
  show (madeCells #[Value.bool false] n).toList = _
  rw [toList_madeCells_one]
  simp [encBo]
 rw [e] at h2
 exact h2
def BoW (w : World) (v : Value) (kn : List Bool) : Prop := ∃ gb, v = .slice (some ⟨gb, 0, none⟩) kn.length kn.length ∧ ∀ (i : Nat) (b : Bool), kn[i]? = some b → w.cell? ⟨gb, i, none⟩ = some (.bool b)
def EndO (S : RdS) (dl : List Ln3) (H : Nat) (w : World) (e : Ending) (w' : World) : Prop :=
 ∃ v kn, e = .returned v ∧ BoW w' v kn ∧ kn.length = dl.length ∧ SoundK S.ds dl kn ∧ (∀ (i : Nat) (y : Ln3), dl[i]? = some y → (∀ z ∈ y.2.1, OkZ dl kn z) → kn[i]? = some true) ∧ Below H w w'
def bT : Value → Nat
 | .bool true => 1
 | _ => 0
set_option maxRecDepth 100000 in
set_option maxHeartbeats 4000000 in
theorem yend {g : Nat} {cs ks : List (Nat × Nat × Int)} {fv dv : Value} {X : XdS} {S : RdS} {q : Nat} (hX : XRel X S) (hS : RdOk q S) (w : World) (hR : RpW g cs ks fv dv w) (hF : LfW w dv X.dl) (hn : X.dl.length ≤ 1000000) (hz : ∀ x ∈ X.dl, x.2.1.length ≤ 1048576) :
 Calls Tryz.prog 39 #[.pointer (some ⟨g, 0, none⟩)] w fun e w' => EndO S X.dl w.heap.size w e w' := by
 obtain ⟨cv, kv, hg, _, _⟩ := hR
 obtain ⟨ao, cp, rfl, _⟩ := id hF
 obtain ⟨dl, hdl⟩ : ∃ dl, X.dl = dl := ⟨_, rfl⟩
 have HX := Lib.hid (And.intro hX (And.intro hS hdl))
 rw [hdl] at hF hn hg hz ⊢
 obtain ⟨n, hln⟩ : ∃ n, dl.length = n := ⟨_, rfl⟩
 rw [hln] at hn hF hg
 have HG : Hid (∀ W, Below w.heap.size w W → W.cell? ⟨g, 3, none⟩ = some (.slice ao n cp)) := Lib.hid fun W h => by
  rw [Lib.cell_of_heap ((h.block g (Array.getElem?_eq_some_iff.1 hg).1).trans hg)]; rfl
 have HF := Lib.hid (And.intro hF (And.intro hln hz))
 have f0 := HG.out w (Below.refl _ _)
 obtain ⟨w2, hmk, hbo, hb2⟩ := make_bo w n hn
 have H2 := Lib.hid (And.intro hbo hb2)
 obtain ⟨gb, hgb⟩ : ∃ gb, w.heap.size = gb := ⟨_, rfl⟩
 rw [hgb] at hmk H2 HG ⊢
 have HGB := Lib.hid hgb
 clear hF hg hln hz hX hS hdl hbo hb2 hgb
 go_enter Tryz.func39, Tryz.ntmps39
 go_wp2_with fail
 clear f0 hmk
 go_loopw [4] (fun mv wr => ∃ (more : Bool) (kn : List Bool), mv = .bool more ∧ Hid (BoO gb n kn wr ∧ SoundK S.ds dl kn ∧ Below gb w wr ∧ (more = false → ∀ (i : Nat) (y : Ln3), dl[i]? = some y → (∀ z ∈ y.2.1, OkZ dl kn z) → kn[i]? = some true))) (fun mv wr => 2 * cntF gb n wr + bT mv)
 case atStart => exact ⟨true, List.replicate n false, rfl, Lib.hid ⟨H2.out.1, by have := soundK0 S.ds dl; rw [HF.out.2.1] at this; exact this, H2.out.2, fun h => by cases h⟩⟩
 case round =>
  obtain ⟨more, kn0, rfl, H⟩ := hrel
  cases more with
  | false =>
    have HO := Lib.hid H.out
    clear H
    go_wp2
    go_ret
    obtain ⟨h1, h2, h3, h4⟩ := HO.out
    have hl := h1.1
    refine ⟨_, kn0, rfl, ⟨gb, by rw [hl]; rfl, fun i b hi => h1.cell hi⟩, by rw [hl, HF.out.2.1], h2, h4 (by trivial), h3⟩
  | true =>
    obtain ⟨W0, hW0⟩ : ∃ W0, W0 = wr := ⟨_, rfl⟩
    subst hW0
    go_wp2_with fail
    go_loopw [4, 5] (fun mv iv wi => ∃ (i : Nat) (more : Bool) (kn : List Bool), mv = .bool more ∧ iv = .int .i64 (i : Nat) ∧ i ≤ n ∧ Hid (EndI S.ds dl kn0 i more kn ∧ BoO gb n kn wi ∧ Below gb w wi)) (fun _ iv _ => n - (RowKit.intOf iv).toNat)
    case atStart => exact ⟨0, false, kn0, rfl, rfl, Nat.zero_le _, Lib.hid ⟨EndI.start H.out.2.1, H.out.1, H.out.2.2.1⟩⟩
    case round =>
     obtain ⟨i, more, kn, rfl, rfl, hi, HI⟩ := hrel
     by_cases hlt : i < n
     ·have e1 : (i : Int) < n := by omega
      have e0 : (0 : Int) ≤ (i : Int) := by omega
      have k1 : IntKind.i64.wrap ((i : Int) + 1) = ((i + 1 : Nat) : Int) := by rw [IntWalk.i64_in _ (by omega)]; omega
      obtain ⟨y, hy⟩ : ∃ y, dl[i]? = some y := ⟨_, List.getElem?_eq_getElem (by rw [HF.out.2.1]; omega)⟩
      have hbw : Below w.heap.size w wr := by rw [HGB.out]; exact HI.out.2.2
      have hLW := HF.out.1.below hbw
      obtain ⟨gl, sv, hao, d0, d1, hs, d2⟩ := hLW.at3 hy
      obtain ⟨so, sc, rfl, hor⟩ := id hs
      obtain ⟨L, hL⟩ : ∃ L, (toZ y.2.1).length = L := ⟨_, rfl⟩
      rw [hL] at d1
      have hL6 : L ≤ 1048576 := by rw [← hL, toZ_len]; exact HF.out.2.2 y (List.mem_of_getElem? hy)
      obtain ⟨b, hb⟩ : ∃ b, kn[i]? = some b := ⟨_, List.getElem?_eq_getElem (by rw [HI.out.2.1.1]; exact hlt)⟩
      have HY := Lib.hid (And.intro hy (And.intro hL (And.intro hor (And.intro hb hao))))
      have f0 := HG.out wr HI.out.2.2
      have f1 := HI.out.2.1.cell hb
      have HD1 := Lib.hid d1
      clear hy hbw hLW hs hor hL hb hlt d0 d2
      obtain ⟨W1, hW1⟩ : ∃ W1, W1 = wr := ⟨_, rfl⟩
      subst hW1
      go_wp2_with fail
      go_loopw [6, 7] (fun av kv wk => ∃ (k : Nat) (A : Bool), av = .bool A ∧ kv = .int .i64 (k : Nat) ∧ k ≤ L ∧ Hid (AllI dl kn y.2.1 k A) ∧ ∃ q, wk = W1.drewN q) (fun _ kv _ => L - (RowKit.intOf kv).toNat)
      case atStart => exact ⟨0, true, rfl, rfl, Nat.zero_le _, Lib.hid ⟨fun _ z hz => (by simp at hz), fun _ => rfl⟩, 0, rfl⟩
      case round =>
       obtain ⟨k, A, rfl, rfl, hk, HA, q, rfl⟩ := hrel
       have d1 : (W1.drewN q).cell? ⟨gl, i * 3 + 1, none⟩ = some (.slice so L sc) := HD1.out
       have f0 : (W1.drewN q).cell? ⟨g, 3, none⟩ = some (.slice ao n cp) := f0
       by_cases hkl : k < L
       ·have e2 : (k : Int) < L := by omega
        have e3 : (0 : Int) ≤ (k : Int) := by omega
        have k2 : IntKind.i64.wrap ((k : Int) + 1) = ((k + 1 : Nat) : Int) := by rw [IntWalk.i64_in _ (by omega)]; omega
        obtain ⟨z, hz⟩ : ∃ z, y.2.1[k]? = some z := ⟨_, List.getElem?_eq_getElem (by have := HY.out.2.1; rw [toZ_len] at this; omega)⟩
        obtain ⟨gt, off, hso, c0⟩ : ∃ gt off, so = some ⟨gt, off, none⟩ ∧ W1.cell? ⟨gt, off + k, none⟩ = some (.int .i32 (z : Int)) := by
         have hyz : (toZ y.2.1)[k]? = some (z : Int) := by unfold toZ; rw [List.getElem?_map, hz]; rfl
         rcases HY.out.2.2.1 with h | ⟨gt, off, e, h⟩
         ·rw [h] at hyz; cases hyz
         ·exact ⟨gt, off, e, h k _ hyz⟩
        have hzv := valid_le ((HX.out.2.1.ds _ _ ((HX.out.1.at (by rw [HX.out.2.2]; exact List.mem_of_getElem? HY.out.1)).1)).2.2 z (List.mem_of_getElem? hz))
        have hz32 : IntKind.i64.wrap (z : Int) = (z : Int) := IntWalk.i64_in _ (by omega)
        obtain ⟨Z, hZ⟩ : ∃ Z : Int, (z : Int) = Z := ⟨_, rfl⟩
        rw [hZ] at hz32 c0
        have HZ := Lib.hid (And.intro hz hZ)
        have HC0 := Lib.hid (And.intro hso c0)
        clear hz hZ hzv hkl hso c0
        go_wp2_with fail
        clear d1 f0
        go_loopw [6, 8] (fun av mv wm => ∃ (m : Nat) (B : Bool), av = .bool B ∧ mv = .int .i64 (m : Nat) ∧ m ≤ n ∧ Hid (AllM dl kn y.2.1 k m z B) ∧ ∃ q, wm = W1.drewN q) (fun _ mv _ => n - (RowKit.intOf mv).toNat)
        case atStart => exact ⟨0, A, rfl, rfl, Nat.zero_le _, Lib.hid (HA.out.enter z), q, rfl⟩
        case round =>
         obtain ⟨m, B, rfl, rfl, hm, HB, q2, rfl⟩ := hrel
         have f0 : W1.cell? ⟨g, 3, none⟩ = some (.slice ao n cp) := HG.out W1 HI.out.2.2
         by_cases hml : m < n
         ·have e4 : (m : Int) < n := by omega
          have e5 : (0 : Int) ≤ (m : Int) := by omega
          have k3 : IntKind.i64.wrap ((m : Int) + 1) = ((m + 1 : Nat) : Int) := by rw [IntWalk.i64_in _ (by omega)]; omega
          obtain ⟨x, hx⟩ : ∃ x, dl[m]? = some x := ⟨_, List.getElem?_eq_getElem (by rw [HF.out.2.1]; exact hml)⟩
          obtain ⟨bm, hbm⟩ : ∃ bm, kn[m]? = some bm := ⟨_, List.getElem?_eq_getElem (by rw [HI.out.2.1.1]; exact hml)⟩
          have hbw : Below w.heap.size w W1 := by rw [HGB.out]; exact HI.out.2.2
          obtain ⟨gl2, sv2, hao2, x0, _, _, _⟩ := (HF.out.1.below hbw).at3 hx
          have hao := HY.out.2.2.2.2
          subst hao
          have hgl : gl2 = gl := by injection hao2 with h1; injection h1 with h2 _ _; exact h2.symm
          subst hgl
          obtain ⟨xo, hxo⟩ : ∃ xo : Int, (x.1 : Int) = xo := ⟨_, rfl⟩
          rw [hxo] at x0
          have d1 : W1.cell? ⟨gl2, i * 3 + 1, none⟩ = some (.slice so L sc) := HD1.out
          have f1 : W1.cell? ⟨gb, m, none⟩ = some (.bool bm) := HI.out.2.1.cell hbm
          have hso := HC0.out.1
          subst hso
          have c0 : W1.cell? ⟨gt, off + k, none⟩ = some (.int .i32 Z) := HC0.out.2
          have HXM := Lib.hid (And.intro hx (And.intro hbm hxo))
          clear hx hbm hxo hbw hao2 hml
          cases B with
          | false =>
            go_wp2_with fail
            go_quiet (fail)
            go_wp2
            go_roundw
            case rel => exact ⟨m + 1, false, rfl, by go_num, by omega, Lib.hid HB.out.off, q2 + nq, rfl⟩
            case measure => simp [RowKit.intOf]; omega
          | true =>
            by_cases hxz : xo = Z
            ·have r1 : (xo == Z) = true := by simpa using hxz
             have r2 : (xo != Z) = false := by simpa using hxz
             have HS : Hid (AllM dl kn y.2.1 k (m + 1) z bm) := Lib.hid (HB.out.same HXM.out.1 (by have h1 := HXM.out.2.2; have h2 := HZ.out.2; omega) HXM.out.2.1)
             clear hxz
             go_wp2_with fail
             go_quiet (fail)
             go_wp2
             go_roundw
             case rel => exact ⟨m + 1, bm, rfl, by go_num, by omega, HS, q2 + nq, rfl⟩
             case measure => simp [RowKit.intOf]; omega
            ·have r1 : (xo == Z) = false := beq_eq_false_iff_ne.2 hxz
             have r2 : (xo != Z) = true := by simpa using hxz
             have HS : Hid (AllM dl kn y.2.1 k (m + 1) z true) := Lib.hid (HB.out.other HXM.out.1 (by have h1 := HXM.out.2.2; have h2 := HZ.out.2; omega))
             clear hxz
             go_wp2_with fail
             go_quiet (fail)
             go_wp2
             go_roundw
             case rel => exact ⟨m + 1, true, rfl, by go_num, by omega, HS, q2 + nq, rfl⟩
             case measure => simp [RowKit.intOf]; omega
         ·have e4 : ¬ (m : Int) < n := by omega
          obtain rfl : m = n := by omega
          have HS : Hid (AllI dl kn y.2.1 (k + 1) B) := Lib.hid (by
           have h1 := HB.out
           rw [← HF.out.2.1] at h1
           exact h1.leave HZ.out.1)
          clear hml
          go_wp2
          go_roundw
          case rel => exact ⟨k + 1, B, rfl, by go_num, by omega, HS, q2, rfl⟩
          case measure => simp [RowKit.intOf]; omega
       ·have e2 : ¬ (k : Int) < L := by omega
        obtain rfl : k = L := by omega
        have HAL : Hid (A = true ↔ ∀ z ∈ y.2.1, OkZ dl kn z) := Lib.hid (by
         have h1 := HA.out
         unfold AllI at h1
         rw [List.take_of_length_le (by have := HY.out.2.1; rw [toZ_len] at this; omega)] at h1
         exact h1)
        have f1 : (W1.drewN q).cell? ⟨gb, i, none⟩ = some (.bool b) := f1
        have hfz : (W1.drewN q).frozen? ⟨gb, i, none⟩ = false := HI.out.2.1.fz i
        have hset : ∀ c, BoO gb n (kn.set i c) ((W1.drewN q).setCell ⟨gb, i, none⟩ (.bool c)) ∧ Below gb w ((W1.drewN q).setCell ⟨gb, i, none⟩ (.bool c)) := fun c => by
         have hb1 : Below gb w (W1.drewN q) := below_drewN HI.out.2.2 q
         have hk : Keep (fun b => b = gb) (W1.drewN q) ((W1.drewN q).setCell ⟨gb, i, none⟩ (.bool c)) := Keep.setCell (X := fun b => b = gb) (Keep.refl _ _) (p := ⟨gb, i, none⟩) rfl _
         refine ⟨(HI.out.2.1.drewN q).set i c, hb1.trans (hk.below ?_ (fun b hb => by omega))⟩
         have h1 := hb1.size
         have h2 := HGB.out
         omega
        have HSET := Lib.hid hset
        clear hkl HA hset
        cases A with
        | false =>
          have HE := Lib.hid (HI.out.1.no HY.out.1 HY.out.2.2.2.1 (fun h => by have := HAL.out.2 h; cases this))
          cases more
          all_goals
           cases b
           all_goals
            go_wp2
            go_roundw
            case rel => exact ⟨i + 1, _, kn.set i _, rfl, by go_num, by omega, Lib.hid ⟨HE.out, (HSET.out _).1, (HSET.out _).2⟩⟩
            case measure => simp [RowKit.intOf]; omega
        | true =>
          have HE := Lib.hid (by
           have h1 := HI.out.1
           rw [← HX.out.2.2] at h1
           have h2 := h1.yes HX.out.1 HX.out.2.1 (by rw [HX.out.2.2]; exact HY.out.1) HY.out.2.2.2.1 (by rw [HX.out.2.2]; exact HAL.out.1 rfl)
           rw [HX.out.2.2] at h2
           exact h2)
          cases more
          all_goals
           cases b
           all_goals
            go_wp2
            go_roundw
            case rel => exact ⟨i + 1, _, kn.set i true, rfl, by go_num, by omega, Lib.hid ⟨HE.out, (HSET.out _).1, (HSET.out _).2⟩⟩
            case measure => simp [RowKit.intOf]; omega
     ·have e1 : ¬ (i : Int) < n := by omega
      have f0 := HG.out wr HI.out.2.2
      have HE := Lib.hid HI.out
      have HM := Lib.hid H.out
      obtain rfl : i = n := by omega
      clear HI H hlt
      go_wp2
      go_roundw
      case rel => exact ⟨more, kn, rfl, Lib.hid ⟨HE.out.2.1, HE.out.1.1, HE.out.2.2, fun e => by
       obtain ⟨q1, q2⟩ := HE.out.1.2.2.2 e
       exact fun j y hy hz => q2 j y (by have := (List.getElem?_eq_some_iff.1 hy).1; have := HF.out.2.1; omega) hy hz⟩⟩
      case measure =>
       have h1 := HE.out.2.1.cnt
       have h2 := HM.out.1.cnt
       have h3 := HE.out.1.2.1
       have h4 := HE.out.1.2.2.1
       rw [h1, h2]
       cases more with
       | false => simp [bT]; omega
       | true => have := h4 rfl; simp [bT]; omega
end Go.Proofs.YtgpbaeehajkebaaGreatDoor
