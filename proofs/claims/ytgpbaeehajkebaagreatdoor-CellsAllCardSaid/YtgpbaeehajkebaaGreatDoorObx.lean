/- slices.Sort on numbers of 32 bits: Less; insertion; a row turned round. -/
import Derived.Test.YtgpbaeehajkebaaGreatDoorGv2
import Derived.Test.YtgpbaeehajkebaaGreatDoorProg
import Derived.WalkLawsBesides
import Derived.WalkSpells
import Derived.Lib.Hide
import Derived.RegionTactic
import Derived.BigRegion
import Derived.WalkKit
import Derived.BigGuard
import Derived.BigCall
import Derived.CellFam
import Derived.Deep.Draws
import Derived.Deep.QuietTactic
import Derived.BigQuiet
namespace Go.Proofs.YtgpbaeehajkebaaGreatDoor
open Go Go.RowKit Go.Kt Go.Kt.Os Go.Sort
theorem oNaN (x:Int) (w:World):Calls Tryz.prog 159 #[.int .i32 x] w fun e w'=>e = .returned (.bool false)∧w'=w:=by
 go_enter Tryz.func159,Tryz.ntmps159
 go_wp2
 go_ret
 exact⟨by simp,rfl⟩
theorem oLess (x y:Int) (w:World):Calls Tryz.prog 133 #[.int .i32 x,.int .i32 y] w fun e w'=>e = .returned (.bool (ltInt x y))∧w'=w:=by
 go_enter Tryz.func133,Tryz.ntmps133
 go_wp2_with (go_at_call 159;refine (oNaN _ _).mono ?_;rintro e w' ⟨rfl,rfl⟩)
 go_ret
 exact⟨rfl,rfl⟩
set_option maxRecDepth 100000 in
set_option maxHeartbeats 8000000 in
theorem oIns (blk off cap a b:Nat) (d:Array Int) (w:World) (hH:Holds E32 w blk off d) (hab:a≤b) (hb:b≤d.size) (hsz:d.size<4611686018427387904) :
 Calls Tryz.prog 149 #[.slice (some ⟨blk,off,none⟩) d.size cap,.int .i64 a,.int .i64 b] w fun e w' =>
  e = .returned (.tuple #[])∧SW w blk off (insertionSort ltInt d a b) w':=by
 have H0:=Lib.hid (SW.refl hH)
 clear hH
 obtain⟨n,hn⟩:∃n,d.size=n:=⟨_,rfl⟩
 rw[hn] at hb hsz ⊢
 have HN:=Lib.hid hn
 clear hn
 go_enter Tryz.func149,Tryz.ntmps149
 go_wp2
 go_loopw [6] (fun vi wr=>∃(i:Nat) (dk:Array Int),vi = .int .i64 i∧a<i∧i≤b+1∧Hid (dk.size=n∧SW w blk off dk wr∧insOuter ltInt a b i dk=insOuter ltInt a b (a+1) d)) (fun vi _=>b+1-(RowKit.intOf vi).toNat)
 case atStart=>exact⟨a+1,d,by go_num,by omega,by omega,Lib.hid ⟨HN.out,H0.out,rfl⟩⟩
 case round =>
  obtain⟨i,dk,rfl,hai,hib,hh⟩:=hrel
  obtain⟨W1,hW1⟩:∃W1,W1=wr:=⟨_,rfl⟩
  subst hW1
  go_wp2
  ·rename_i hlt0
   have hlt:i<b:=by omega
   go_loopw [7] (fun vj wr2=>∃(j:Nat) (dj:Array Int),vj = .int .i64 j∧a≤j∧j≤i∧Hid (dj.size=n∧SW w blk off dj wr2∧insInner ltInt a j dj=insInner ltInt a i dk)) (fun vj _=>(RowKit.intOf vj).toNat)
   case atStart=>exact⟨i,dk,rfl,by omega,Nat.le_refl _,Lib.hid ⟨hh.out.1,hh.out.2.1,rfl⟩⟩
   case round =>
    obtain⟨j,dj,rfl,haj,hji,hg⟩:=hrel
    obtain⟨G,hG⟩:∃G:Nat→Int,∀t,G t=dj[t]!:=⟨fun t=>dj[t]!,fun _=>rfl⟩
    have hcw:=hg.out.2.1.cells hG hg.out.1
    have hfw:=hg.out.2.1.thaw hg.out.1
    have HG:=Lib.hid hG
    clear hG
    by_cases hja:a<j
    ·have hjz:(a:Int)<(j:Int):=by omega
     go_wp2_with fail
     go_big_quiet (first|(go_at_call 133;refine Calls.quiet_of_same (oLess _ _ _)))
     go_wp2_with fail
     ·have hl:ltInt (G j) (G (j-1))=true:=by assumption
      have hcw2:∀t,t<n→(wr.drewN nq).cell? ⟨blk,off+t,none⟩=some (.int .i32 (G t)):=hcw
      have hfw2:∀t,t<n→(wr.drewN nq).frozen? ⟨blk,off+t,none⟩=false:=hfw
      have HS:=Lib.hid (hg.out.2.1.drewN nq)
      clear hcw hfw
      generalize wr.drewN nq=wr3 at hcw2 hfw2 HS ⊢
      go_region
      all_goals go_wp2
      go_roundw
      case rel =>
       refine⟨j-1,swp dj j (j-1),by congr 1;omega,by omega,by omega,Lib.hid ⟨by rw[size_swp];exact hg.out.1,HS.out.swapq HG.out (by have:=hg.out.1;omega) (by have:=hg.out.1;omega) 0 1,?_⟩⟩
       rw[←hg.out.2.2,insInner_go ltInt a j dj hja (by rw[←HG.out,←HG.out];exact hl)]
      case measure=>simp[RowKit.intOf];omega
     ·have hl:ltInt (G j) (G (j-1))=false:=by assumption
      go_wp2
      go_roundw
      case rel=>exact⟨i+1,dj,by go_num,by omega,by omega,Lib.hid ⟨hg.out.1,hg.out.2.1.drewN nq,by rw[←hh.out.2.2,insOuter_go _ _ _ _ _ hlt,←hg.out.2.2,insInner_stop _ _ _ _ (.inr (by rw[←HG.out,←HG.out];exact hl))]⟩⟩
      case measure=>simp[RowKit.intOf];omega
    ·have hjz:¬(a:Int)<(j:Int):=by omega
     go_wp2_with fail
     go_big_quiet (first|(go_at_call 133;refine Calls.quiet_of_same (oLess _ _ _)))
     go_wp2
     go_roundw
     case rel=>exact⟨i+1,dj,by go_num,by omega,by omega,Lib.hid ⟨hg.out.1,hg.out.2.1.drewN nq,by rw[←hh.out.2.2,insOuter_go _ _ _ _ _ hlt,←hg.out.2.2,insInner_stop _ _ _ _ (.inl (by omega))]⟩⟩
     case measure=>simp[RowKit.intOf];omega
  ·rename_i hge
   go_end0
   refine⟨rfl,?_⟩
   have e:insertionSort ltInt d a b=dk:=by unfold insertionSort;rw[←hh.out.2.2,insOuter_stop _ _ _ _ _ (by omega)]
   rw[e]
   exact hh.out.2.1
set_option maxRecDepth 100000 in
set_option maxHeartbeats 8000000 in
theorem oRev (blk off cap a b:Nat) (d:Array Int) (w:World) (hH:Holds E32 w blk off d) (hab:a<b) (hb:b≤d.size) (hsz:d.size<4611686018427387904) :
 Calls Tryz.prog 153 #[.slice (some ⟨blk,off,none⟩) d.size cap,.int .i64 a,.int .i64 b] w fun e w' =>
  e = .returned (.tuple #[])∧∃d',PermIn a b d d'∧SW w blk off d' w':=by
 have H0:=Lib.hid (SW.refl hH)
 clear hH
 obtain⟨n,hn⟩:∃n,d.size=n:=⟨_,rfl⟩
 rw[hn] at hb hsz ⊢
 have HN:=Lib.hid hn
 clear hn
 go_enter Tryz.func153,Tryz.ntmps153
 go_wp2
 go_loopw [6,7] (fun vi vj wr=>∃(i j:Nat) (dk:Array Int),vi = .int .i64 i∧vj = .int .i64 j∧a≤i∧i≤j+2∧j<b∧Hid (PermIn a b d dk∧SW w blk off dk wr)) (fun vi vj _=>(RowKit.intOf vj).toNat+2-(RowKit.intOf vi).toNat)
 case atStart=>exact⟨a,b-1,d,rfl,by go_num,by omega,by omega,by omega,Lib.hid ⟨permIn_refl _ _ _,H0.out⟩⟩
 case round =>
  obtain⟨i,j,dk,rfl,rfl,hai,hij,hjb,hh⟩:=hrel
  have hsk:dk.size=n:=hh.out.1.1.trans HN.out
  obtain⟨G,hG⟩:∃G:Nat→Int,∀t,G t=dk[t]!:=⟨fun t=>dk[t]!,fun _=>rfl⟩
  have hcw:=hh.out.2.cells hG hsk
  have hfw:=hh.out.2.thaw hsk
  have HG:=Lib.hid hG
  have HSK:=Lib.hid hsk
  clear hG hsk
  go_wp2
  ·rename_i hlt
   go_region
   all_goals go_wp2
   go_roundw
   case rel =>
    have hsk:=HSK.out
    refine⟨i+1,j-1,swp dk i j,by go_num,by go_num,by omega,by omega,by omega,Lib.hid ⟨?_,hh.out.2.swapq HG.out (by omega) (by omega) 0 1⟩⟩
    exact permIn_trans _ _ _ _ _ hh.out.1 (swp_permIn dk a b i j hai (by omega) (by omega) hjb (by omega))
   case measure=>simp[RowKit.intOf];omega
  ·go_end0
   exact⟨rfl,dk,hh.out.1,hh.out.2⟩
end Go.Proofs.YtgpbaeehajkebaaGreatDoor
