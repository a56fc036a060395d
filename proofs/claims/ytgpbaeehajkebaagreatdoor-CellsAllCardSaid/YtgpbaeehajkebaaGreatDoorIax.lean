/- cells: kinds of Hangul; whether two go into one sign; whether an edge lies between two units. -/
import Derived.Test.YtgpbaeehajkebaaGreatDoorProg
import Derived.Test.YtgpbaeehajkebaaGreatDoorGv2
import Derived.Lib.Hide
import Derived.IntWalk
import Derived.BigQuiet
namespace Go.Proofs.YtgpbaeehajkebaaGreatDoor
open Go Go.RowKit Go.Kt
def hanK (r:Int):Int :=
 if 4352≤r∧r≤4370 then 1 else if 4449≤r∧r≤4469 then 2 else if 4520≤r∧r≤4546 then 3 else if r<44032∨55203<r then 0 else if (r-44032) % 28=0 then 4 else 5
def oneS (a b:Int):Bool :=
 if a=1 then decide (b=1)||decide (b=2)||decide (b=4)||decide (b=5) else if a=2∨a=4 then decide (b=2)||decide (b=3) else if a=3∨a=5 then decide (b=3) else false
structure CU where
 num:Int
 apart:Bool
 hangs:Bool
 holds:Bool
 han:Int
def cuV (u:CU):Value:=.agg #[.int .i32 u.num,.bool u.apart,.bool u.hangs,.bool u.holds,.int .i64 u.han]
def edgU (a b:CU):Bool :=
 if a.num=13∧b.num=10 then false else if a.apart||b.apart then true else if b.hangs||a.holds then false else !oneS a.han b.han
set_option maxRecDepth 100000 in
theorem chan (r:Int) (w:World):Calls Tryz.prog 47 #[.int .i32 r] w fun e w'=>e = .returned (.int .i64 (hanK r))∧w'=w:=by
 by_cases h1:4352≤r∧r≤4370
 ·have e1:=h1.1
  have e2:=h1.2
  rw[show hanK r=1 by unfold hanK;rw[if_pos h1]]
  clear h1
  go_enter Tryz.func47,Tryz.ntmps47
  go_wp2
  go_ret
  exact⟨rfl,rfl⟩
 by_cases h2:4449≤r∧r≤4469
 ·have e1:4352≤r:=by omega
  have e2:¬r≤4370:=by omega
  have e3:=h2.1
  have e4:=h2.2
  rw[show hanK r=2 by unfold hanK;rw[if_neg h1,if_pos h2]]
  clear h1 h2
  go_enter Tryz.func47,Tryz.ntmps47
  go_wp2
  go_ret
  exact⟨rfl,rfl⟩
 by_cases h3:4520≤r∧r≤4546
 ·have e1:4352≤r:=by omega
  have e2:¬r≤4370:=by omega
  have e3:4449≤r:=by omega
  have e4:¬r≤4469:=by omega
  have e5:=h3.1
  have e6:=h3.2
  rw[show hanK r=3 by unfold hanK;rw[if_neg h1,if_neg h2,if_pos h3]]
  clear h1 h2 h3
  go_enter Tryz.func47,Tryz.ntmps47
  go_wp2
  go_ret
  exact⟨rfl,rfl⟩
 have HN:Hid ((¬(4352≤r∧r≤4370))∧(¬(4449≤r∧r≤4469))∧¬(4520≤r∧r≤4546)):=Lib.hid ⟨h1,h2,h3⟩
 by_cases h4:r<44032
 ·rw[show hanK r=0 by unfold hanK;rw[if_neg h1,if_neg h2,if_neg h3,if_pos (Or.inl h4)]]
  by_cases a1:4352≤r
  ·have a2:¬r≤4370:=by omega
   by_cases b1:4449≤r
   ·have b2:¬r≤4469:=by omega
    by_cases c1:4520≤r
    ·have c2:¬r≤4546:=by omega
     clear h1 h2 h3 HN
     go_enter Tryz.func47,Tryz.ntmps47
     go_wp2
     go_ret
     exact⟨rfl,rfl⟩
    ·clear h1 h2 h3 HN
     go_enter Tryz.func47,Tryz.ntmps47
     go_wp2
     go_ret
     exact⟨rfl,rfl⟩
   ·have c1:¬4520≤r:=by omega
    clear h1 h2 h3 HN
    go_enter Tryz.func47,Tryz.ntmps47
    go_wp2
    go_ret
    exact⟨rfl,rfl⟩
  ·have b1:¬4449≤r:=by omega
   have c1:¬4520≤r:=by omega
   clear h1 h2 h3 HN
   go_enter Tryz.func47,Tryz.ntmps47
   go_wp2
   go_ret
   exact⟨rfl,rfl⟩
 have a1:4352≤r:=by omega
 have a2:¬r≤4370:=by omega
 have b1:4449≤r:=by omega
 have b2:¬r≤4469:=by omega
 have c1:4520≤r:=by omega
 have c2:¬r≤4546:=by omega
 by_cases h5:55203<r
 ·rw[show hanK r=0 by unfold hanK;rw[if_neg h1,if_neg h2,if_neg h3,if_pos (Or.inr h5)]]
  clear h1 h2 h3 HN
  go_enter Tryz.func47,Tryz.ntmps47
  go_wp2
  go_ret
  exact⟨rfl,rfl⟩
 obtain⟨m,rfl⟩:∃m,r=44032+m:=⟨r-44032,by omega⟩
 have q1:IntKind.i32.wrap (44032+m-44032)=m:=by rw[IntWalk.i32_in _ (by omega)];omega
 have q2:m.tmod 28=m % 28:=Int.tmod_eq_emod_of_nonneg (by omega)
 have q3:44032+m-44032=m:=by omega
 obtain⟨k,hk⟩:∃k,m % 28=k:=⟨_,rfl⟩
 have q4:IntKind.i32.wrap k=k:=IntWalk.i32_in _ (by omega)
 rw[show hanK (44032+m)=if k=0 then 4 else 5 by unfold hanK;rw[if_neg h1,if_neg h2,if_neg h3,if_neg (by omega),q3,hk]]
 by_cases hk0:k=0
 ·rw[if_pos hk0]
  clear h1 h2 h3 HN q3
  go_enter Tryz.func47,Tryz.ntmps47
  go_wp2
  go_ret
  exact⟨rfl,rfl⟩
 ·rw[if_neg hk0]
  have hk1:(k==0)=false:=by rw[beq_eq_false_iff_ne];exact hk0
  clear h1 h2 h3 HN q3
  go_enter Tryz.func47,Tryz.ntmps47
  go_wp2
  go_ret
  exact⟨rfl,rfl⟩
theorem hanK_in (r:Int):0≤hanK r∧hanK r≤5:=by
 unfold hanK
 repeat' split
 all_goals decide
set_option maxRecDepth 100000 in
theorem cone (a b:Int) (w:World) (ha:0≤a∧a≤5) (hb:0≤b∧b≤5):Calls Tryz.prog 48 #[.int .i64 a,.int .i64 b] w fun e w'=>e = .returned (.bool (oneS a b))∧w'=w:=by
 have ha':a=0∨a=1∨a=2∨a=3∨a=4∨a=5:=by omega
 have hb':b=0∨b=1∨b=2∨b=3∨b=4∨b=5:=by omega
 clear ha hb
 rcases ha' with rfl|rfl|rfl|rfl|rfl|rfl <;> rcases hb' with rfl|rfl|rfl|rfl|rfl|rfl <;>
  (go_enter Tryz.func48,Tryz.ntmps48
   go_wp2
   go_ret
   exact⟨rfl,rfl⟩)
end Go.Proofs.YtgpbaeehajkebaaGreatDoor
