/- cells: whether an edge lies between two units; the unit at a place. -/
import Derived.Test.YtgpbaeehajkebaaGreatDoorIax
namespace Go.Proofs.YtgpbaeehajkebaaGreatDoor
open Go Go.RowKit Go.Kt
set_option maxRecDepth 100000 in
set_option maxHeartbeats 2000000 in
theorem cedge (a b:CU) (w:World) (ha:0≤a.han∧a.han≤5) (hb:0≤b.han∧b.han≤5):Calls Tryz.prog 21 #[cuV a,cuV b] w fun e w'=>e = .returned (.bool (edgU a b))∧Below w.heap.size w w':=by
 have CO:=Lib.hid (fun W=>cone a.han b.han W ha hb)
 obtain⟨an,aa,ag,ao,ah⟩:=a
 obtain⟨bn,ba,bg,bo,bh⟩:=b
 simp only at ha hb CO
 have HW:∀(x y:Obj),Below w.heap.size w ((w.alloc x).alloc y):=fun x y=>Below.alloc (Below.alloc (Below.refl _ w) (Nat.le_refl _) _) (Below.alloc (Below.refl _ w) (Nat.le_refl _) _).size _
 have HW:=Lib.hid HW
 have HE:Hid (edgU ⟨an,aa,ag,ao,ah⟩ ⟨bn,ba,bg,bo,bh⟩=if an=13∧bn=10 then false else if aa||ba then true else if bg||ao then false else !oneS ah bh):=Lib.hid rfl
 rw[HE.out]
 unfold cuV
 simp only
 clear ha hb
 by_cases n1:an=13∧bn=10
 ·rw[if_pos n1]
  obtain⟨rfl,rfl⟩:=n1
  clear HE CO
  go_enter Tryz.func21,Tryz.ntmps21
  go_wp2
  go_ret
  exact⟨rfl,HW.out _ _⟩
 rw[if_neg n1]
 clear HE
 obtain⟨o,ho⟩:∃o,oneS ah bh=o:=⟨_,rfl⟩
 rw[ho] at CO ⊢
 clear ho
 by_cases n2:an=13
 ·have n3:bn≠10:=fun h=>n1 ⟨n2,h⟩
  have n4:(bn==10)=false:=by rw[beq_eq_false_iff_ne];exact n3
  subst n2
  clear n1 n3
  cases aa <;> cases ba <;> cases bg <;> cases ao <;>
   (go_enter Tryz.func21,Tryz.ntmps21
    first
    | (go_wp2_with fail
       refine (CO.out _).mono ?_
       rintro e w' ⟨rfl,rfl⟩
       go_wp2
       go_ret
       exact⟨rfl,HW.out _ _⟩)
    | (go_wp2
       go_ret
       exact⟨rfl,HW.out _ _⟩))
 ·have n4:(an==13)=false:=by rw[beq_eq_false_iff_ne];exact n2
  clear n1 n2
  cases aa <;> cases ba <;> cases bg <;> cases ao <;>
   (go_enter Tryz.func21,Tryz.ntmps21
    first
    | (go_wp2_with fail
       refine (CO.out _).mono ?_
       rintro e w' ⟨rfl,rfl⟩
       go_wp2
       go_ret
       exact⟨rfl,HW.out _ _⟩)
    | (go_wp2
       go_ret
       exact⟨rfl,HW.out _ _⟩))
end Go.Proofs.YtgpbaeehajkebaaGreatDoor
