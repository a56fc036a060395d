/- slices.Concat of two rows of runs; Join. -/
import Derived.Test.YtmcmdijfdhlnaaaDoorNi
namespace Go.Proofs.YtmcmdijfdhlnaaaDoor
open Go Go.RowKit Go.Kt Go.Kt.Rg

def catL (l1 l2 : List Run) : Nat → List Run
  | 0 => []
  | 1 => l1
  | _ => l1 ++ l2
set_option maxRecDepth 100000 in
set_option maxHeartbeats 2000000 in
theorem rconcat_any (l1 l2 : List Run) (v1 v2 : Value) (h : Nat) (w : World) (c1 : w.cell? ⟨h, 0, none⟩ = some v1) (c2 : w.cell? ⟨h, 1, none⟩ = some v2) (h1 : SlR w v1 l1) (h2 : SlR w v2 l2) (m1 : l1.length ≤ 1112192) (m2 : l2.length ≤ 1112192) :
    Calls Tryd.prog 22 #[.slice (some ⟨h, 0, none⟩) 2 2] w fun e w' => ∃ v, e = .returned v ∧ OwnS (fun b => w.heap.size ≤ b) 51 2 v (l1 ++ l2).length (encR (l1 ++ l2)) w' ∧ Below w.heap.size w w' := by
  have H1 := Lib.hid h1
  have H2 := Lib.hid h2
  obtain ⟨a1, cp1, rfl, _⟩ := h1
  obtain ⟨a2, cp2, rfl, _⟩ := h2
  obtain ⟨n1, hn1⟩ : ∃ n, l1.length = n := ⟨_, rfl⟩
  obtain ⟨n2, hn2⟩ : ∃ n, l2.length = n := ⟨_, rfl⟩
  rw [hn1] at c1 m1 H1
  rw [hn2] at c2 m2 H2
  have HN := Lib.hid (And.intro hn1 hn2)
  have CG0 := rgrow_any (n1 + n2) w (by omega)
  rw [Int.natCast_add] at CG0
  have CG := Lib.hid CG0
  clear CG0
  have lh := lt_of_cell c1
  clear hn1 hn2
  go_enter Tryd.func22, Tryd.ntmps22
  go_wp2
  go_loop [3, 11] (fun a x => ∃ k : Nat, x = .int .i64 k ∧ ((k = 0 ∧ a = .int .i64 0) ∨ (k = 1 ∧ a = .int .i64 n1) ∨ (k = 2 ∧ a = .int .i64 ((n1 : Int) + n2)))) (fun _ x => 2 - (RowKit.intOf x).toNat)
  case atStart => exact ⟨0, rfl, .inl ⟨rfl, rfl⟩⟩
  case round =>
    obtain ⟨k, rfl, hk⟩ := hrel
    rcases hk with ⟨rfl, rfl⟩ | ⟨rfl, rfl⟩ | ⟨rfl, rfl⟩
    · go_wp2
      go_round
      case rel => exact ⟨1, by go_num, .inr (.inl ⟨rfl, by go_num⟩)⟩
      case measure => simp [RowKit.intOf]
    · go_wp2
      go_round
      case rel => exact ⟨2, by go_num, .inr (.inr ⟨rfl, by go_num⟩)⟩
      case measure => simp [RowKit.intOf]
    · go_wp2_with fail
      refine CG.out.mono ?_
      rintro e w1 ⟨v0, rfl, ho, hb⟩
      have q1 := (hb.cell lh).trans c1
      have q2 := (hb.cell lh).trans c2
      have HO := Lib.hid (And.intro ho hb)
      clear ho hb
      go_wp2_with fail
      go_loopw [6, 27] (fun s x wr => ∃ k : Nat, x = .int .i64 k ∧ k ≤ 2 ∧ OwnS (fun b => w.heap.size ≤ b) 51 2 s (catL l1 l2 k).length (encR (catL l1 l2 k)) wr ∧ Below w.heap.size w wr) (fun _ x _ => 2 - (RowKit.intOf x).toNat)
      case atStart => exact ⟨0, rfl, by omega, HO.out.1, HO.out.2⟩
      case round =>
        obtain ⟨k, rfl, hk, ho2, hb2⟩ := hrel
        have HI := Lib.hid (And.intro ho2 hb2)
        have z1 := (hb2.cell lh).trans c1
        have z2 := (hb2.cell lh).trans c2
        clear ho2 hb2 q1 q2
        rcases (by omega : k = 0 ∨ k = 1 ∨ k = 2) with rfl | rfl | rfl
        · obtain ⟨v', w', hrun, hown, hkp⟩ := append_slr HI.out.1 HI.out.2.size (H1.out.below HI.out.2) (by show 0 + l1.length ≤ _; rw [HN.out.1]; omega)
          have hbb := HI.out.2.trans (hkp.below HI.out.2.size fun b h => HI.out.1.2 b h)
          have HRun := Lib.hid hrun
          have HG := Lib.hid (And.intro hown hbb)
          clear hrun hown hkp hbb
          go_wp2_with (at_builtin; refine wpList_append_eq rfl rfl rfl rfl HRun.out ?_)
          go_roundw
          case rel => exact ⟨1, by go_num, by omega, HG.out.1, HG.out.2⟩
          case measure => simp [RowKit.intOf]
        · obtain ⟨v', w', hrun, hown, hkp⟩ := append_slr HI.out.1 HI.out.2.size (H2.out.below HI.out.2) (by show l1.length + l2.length ≤ _; rw [HN.out.1, HN.out.2]; omega)
          have hbb := HI.out.2.trans (hkp.below HI.out.2.size fun b h => HI.out.1.2 b h)
          have HRun := Lib.hid hrun
          have HG := Lib.hid (And.intro hown hbb)
          clear hrun hown hkp hbb
          go_wp2_with (at_builtin; refine wpList_append_eq rfl rfl rfl rfl HRun.out ?_)
          go_roundw
          case rel => exact ⟨2, by go_num, by omega, HG.out.1, HG.out.2⟩
          case measure => simp [RowKit.intOf]
        · go_wp2
          go_ret
          exact ⟨_, rfl, HI.out.1, HI.out.2⟩
end Go.Proofs.YtmcmdijfdhlnaaaDoor
