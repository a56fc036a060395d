/- ScanBack: its walk. -/
import Derived.Test.YtbnnhbmnddaafaaGreatDoorGz12
import Derived.Test.YtbnnhbmnddaafaaGreatDoorGz13
namespace Go.Proofs.YtbnnhbmnddaafaaGreatDoor
open Go Go.RowKit Go.Kt Go.Shelf Go.Lib
attribute [local go_sem] Oper.semAt_some

theorem quoF_len (s : ByteArray) : ∀ (f i : Nat), i ≤ s.size → (quoF s f i).length ≤ 13 * (s.size - i) := by
  intro f
  induction f with
  | zero => intro i _; simp [quoF]
  | succ f ih =>
    intro i hi
    rw [quoF]
    split
    · rename_i hlt
      obtain ⟨u1, u2, u3⟩ := unitW_bd s i hi
      have u3 := u3 hlt
      have h1 := ih (i + unitW s i) u2
      have h2 : (quoU s i).length ≤ 13 := by
        unfold quoU
        exact escV_len _ _ (by rw [← Lib.size_eq, ByteArray.size_extract]; omega)
      rw [List.length_append]; omega
    · simp
theorem quoV_len (s : ByteArray) : (quoV s).length ≤ 13 * s.size + 2 := by
  unfold quoV
  split
  · simp
  · have := quoF_len s s.size 0 (Nat.zero_le _); omega

set_option maxHeartbeats 1000000 in
set_option maxRecDepth 100000 in
theorem scanBack_c (s : ByteArray) (w : World) (hE : SEnv w) (hB : BTab w) (hl : 6 < w.heap.size) (hs : s.size ≤ 8796093022208) :
    Calls Tryz.prog 13 #[.string s] w fun e w' => e = .returned (.bool true) ∧ Below w.heap.size w w' := by
  have CQ := Lib.hid (quote_any s w hE hB hl hs)
  have hql := quoV_len s
  have hsq := fun h => scan_quo s h
  obtain ⟨Q, hQ⟩ : ∃ Q : ByteArray, (⟨(quoV s).toArray⟩ : ByteArray) = Q := ⟨_, rfl⟩
  have hQz : Q.size = (quoV s).length := by rw [← hQ]; exact size_mk _
  rw [hQ] at CQ hsq
  rw [← hQz] at hsq hql
  have HE := Lib.hid hE
  clear hQ hQz hE hB hl
  by_cases hz : Q.size ≤ 1048576
  · obtain ⟨l, k, hsc⟩ := hsq hz
    clear hsq
    have hz1 : ¬ (1048576 : Int) < Q.size := by omega
    go_enter Tryz.func13, Tryz.ntmps13
    go_wp2_with fail
    refine CQ.out.mono ?_
    rintro e w1 ⟨rfl, hb1⟩
    have C1 := Lib.hid (scan_any Q w1 (HE.out.below hb1) (by omega))
    rw [hsc] at C1
    have HB1 := Lib.hid hb1
    clear hb1 hsc
    go_wp2_with fail
    refine C1.out.mono ?_
    rintro e w2 ⟨⟨g, cap, rfl, ho⟩, hb2⟩
    have HB2 := Lib.hid (HB1.out.trans (hb2.mono HB1.out.size))
    have k0 : w2.cell? ⟨g, 0, none⟩ = some (.int .i64 1) := ownS_at ho (i := 0) rfl
    have k1 : w2.cell? ⟨g, 1, none⟩ = some (.string ⟨s.data.toList.toArray⟩) := ownS_at ho (i := 1) rfl
    have k4 : w2.cell? ⟨g, 4, none⟩ = some (.int .i64 0) := ownS_at ho (i := 4) rfl
    have k5 : w2.cell? ⟨g, 5, none⟩ = some (.int .i64 0) := ownS_at ho (i := 5) rfl
    have k9 : w2.cell? ⟨g, 9, none⟩ = some (.int .i64 (Q.size : Nat)) := ownS_at ho (i := 9) rfl
    have hse : (⟨s.data.toList.toArray⟩ : ByteArray) = s := by apply ByteArray.ext; simp
    rw [hse] at k1
    have CW := Lib.hid (works_any5 w2 (HE.out.below HB2.out))
    clear ho hb2 hse C1 HB1 CQ hz hql hs
    go_wp2_with (go_at_call 28; refine CW.out.mono ?_; rintro e w3 ⟨rfl, hb3⟩)
    go_ret
    exact ⟨rfl, HB2.out.trans (hb3.mono HB2.out.size)⟩
  · have hz1 : (1048576 : Int) < Q.size := by omega
    have hsc : scanS Q = .bad 5 0 0 := by unfold scanS; rw [if_pos (by omega)]
    clear hsq
    go_enter Tryz.func13, Tryz.ntmps13
    go_wp2_with fail
    refine CQ.out.mono ?_
    rintro e w1 ⟨rfl, hb1⟩
    have C1 := Lib.hid (scan_any Q w1 (HE.out.below hb1) (by omega))
    rw [hsc] at C1
    have HB1 := Lib.hid hb1
    clear hb1 hsc
    go_wp2_with fail
    refine C1.out.mono ?_
    rintro e w2 ⟨rfl, hb2⟩
    have HB2 := Lib.hid (HB1.out.trans (hb2.mono HB1.out.size))
    have CA := Lib.hid (fun V (h : Below w.heap.size w V) => at_fault 5 0 0 V (by decide) (by decide) (HE.out.below h).err)
    have CW := Lib.hid (fun V (h : Below w.heap.size w V) => works_any5 V (HE.out.below h))
    clear hb2 C1 HB1 CQ hz hql hs
    go_wp2_with (first
      | (go_at_call 10; refine (CA.out _ HB2.out).mono ?_; rintro e w3 ⟨rfl, hb3⟩; have HB3 := Lib.hid (HB2.out.trans (hb3.mono HB2.out.size)); clear hb3)
      | (go_at_call 28; refine (CW.out _ HB3.out).mono ?_; rintro e w4 ⟨rfl, hb4⟩))
    go_ret
    exact ⟨rfl, HB3.out.trans (hb4.mono HB3.out.size)⟩
end Go.Proofs.YtbnnhbmnddaafaaGreatDoor
