/- Parts of the proof of what the last text says. -/
import Derived.Test.YtgpbaeehajkebaaGreatDoorBx
import Derived.Lib.DecodeN
import Derived.Test.YtgpbaeehajkebaaGreatDoorObx
namespace Go.Proofs.YtgpbaeehajkebaaGreatDoor
open Go Go.RowKit Go.Lib

def bgT (r:Int × Int × Int) (N:Nat) (x1 x2 x3:Int):Int :=
  if 1<r.1∧1<N∧inB x1 r.2.1 r.2.2=true then
    (if 2<r.1∧2<N∧inB x2 128 191=true then (if 3<r.1∧3<N∧inB x3 128 191=true then 4 else 3) else 2) else 1
def numT (w:Nat) (x0 x1 x2 x3:Int):Int :=
  if w=1 then x0 else if w=2 then x0 % 32*64+x1 % 64
  else if w=3 then (x0 % 16*64+x1 % 64)*64+x2 % 64
  else ((x0 % 8*64+x1 % 64)*64+x2 % 64)*64+x3 % 64

theorem inB_iff (c lo hi:Int):inB c lo hi=true↔lo≤c∧c≤hi:=by simp[inB]

def Agree (N b0 b1 b2 b3:Nat):Prop :=
  (((leadI b0).1=0∨bgT (leadI b0) N b1 b2 b3≠(leadI b0).1)∧decodeN N b0 b1 b2 b3=(65533,1)) ∨
  (∃w:Nat,1≤w∧w≤4∧w≤N∧(leadI b0).1=w∧bgT (leadI b0) N b1 b2 b3=w∧(decodeN N b0 b1 b2 b3).2=w∧((decodeN N b0 b1 b2 b3).1:Int)=numT w b0 b1 b2 b3)

theorem agree_0 (N b0 b1 b2 b3:Nat) (hN:1≤N) (h:b0<128):Agree N b0 b1 b2 b3:=by
  have hl:leadI b0=(1,0,0):=by unfold leadI;rw[if_pos (by omega)]
  unfold Agree;rw[hl]
  refine .inr ⟨1,by omega,by omega,hN,rfl,?_,?_,?_⟩
  · simp[bgT]
  · simp[decodeN,h]
  · simp[decodeN,h,numT]
theorem lead_bad (b0:Nat) (h:(128≤b0∧b0<194)∨245≤b0):leadI b0=(0,0,0):=by
  unfold leadI
  simp only[inB_iff,beq_iff_eq]
  repeat' split
  all_goals first|rfl|(exfalso;omega)
theorem agree_bad (N b0 b1 b2 b3:Nat) (h:(128≤b0∧b0<194)∨245≤b0) (c0:b0<256) (_c1:b1<256) (_c2:b2<256) (_c3:b3<256):Agree N b0 b1 b2 b3:=by
  unfold Agree;rw[lead_bad b0 h]
  refine .inl ⟨.inl rfl,?_⟩
  unfold decodeN
  repeat' split
  all_goals first|rfl|(exfalso;omega)
theorem lead_2 (b0:Nat) (h:194≤b0∧b0<224):leadI b0=(2,128,191):=by
  unfold leadI
  simp only[inB_iff,beq_iff_eq]
  repeat' split
  all_goals first|rfl|(exfalso;omega)
theorem agree_2 (N b0 b1 b2 b3:Nat) (h:194≤b0∧b0<224) (c1:b1<256):Agree N b0 b1 b2 b3:=by
  unfold Agree;rw[lead_2 b0 h]
  by_cases g:1<N∧128≤b1∧b1≤191
  · refine .inr ⟨2,by omega,by omega,by omega,rfl,?_,?_,?_⟩
    · unfold bgT;simp only[inB_iff];rw[if_pos (by omega),if_neg (by omega)];rfl
    · unfold decodeN;rw[if_neg (by omega),if_pos (by omega),if_pos (by omega)]
    · unfold decodeN;rw[if_neg (by omega),if_pos (by omega),if_pos (by omega)];simp[numT]
  · refine .inl ⟨.inr ?_,?_⟩
    · unfold bgT;simp only[inB_iff];rw[if_neg (by omega)];simp
    · unfold decodeN;rw[if_neg (by omega),if_neg (by omega),if_neg (by omega),if_neg (by omega)]
theorem agree_3 (N b0 b1 b2 b3 lo hi:Nat) (h:224≤b0∧b0<240) (hl:leadI b0=(3,(lo:Int),(hi:Int))) (hlo:(lo=if b0=224 then 160 else 128)) (hhi:hi=if b0=237 then 159 else 191) (c1:b1<256) (c2:b2<256):Agree N b0 b1 b2 b3:=by
  unfold Agree;rw[hl]
  have hlo':(b0=224∧lo=160)∨(b0≠224∧lo=128):=by split at hlo <;> omega
  have hhi':(b0=237∧hi=159)∨(b0≠237∧hi=191):=by split at hhi <;> omega
  clear hlo hhi hl
  by_cases g:1<N∧lo≤b1∧b1≤hi∧2<N∧128≤b2∧b2≤191
  · refine .inr ⟨3,by omega,by omega,by omega,rfl,?_,?_,?_⟩
    · unfold bgT;simp only[inB_iff];rw[if_pos (by omega),if_pos (by omega),if_neg (by omega)];rfl
    · unfold decodeN;rw[if_neg (by omega),if_neg (by omega),if_pos (by omega),if_pos (by omega)]
    · unfold decodeN;rw[if_neg (by omega),if_neg (by omega),if_pos (by omega),if_pos (by omega)];simp[numT];omega
  · refine .inl ⟨.inr ?_,?_⟩
    · unfold bgT;simp only[inB_iff]
      split
      · rw[if_neg (by omega)];simp
      · simp
    · unfold decodeN;rw[if_neg (by omega),if_neg (by omega)]
      split
      · rw[if_neg (by omega)]
      · rw[if_neg (by omega)]
theorem agree_4 (N b0 b1 b2 b3 lo hi:Nat) (h:240≤b0∧b0<245) (hl:leadI b0=(4,(lo:Int),(hi:Int))) (hlo:(lo=if b0=240 then 144 else 128)) (hhi:hi=if b0=244 then 143 else 191) (c1:b1<256) (c2:b2<256) (c3:b3<256):Agree N b0 b1 b2 b3:=by
  unfold Agree;rw[hl]
  have hlo':(b0=240∧lo=144)∨(b0≠240∧lo=128):=by split at hlo <;> omega
  have hhi':(b0=244∧hi=143)∨(b0≠244∧hi=191):=by split at hhi <;> omega
  clear hlo hhi hl
  by_cases g:1<N∧lo≤b1∧b1≤hi∧2<N∧128≤b2∧b2≤191∧3<N∧128≤b3∧b3≤191
  · refine .inr ⟨4,by omega,by omega,by omega,rfl,?_,?_,?_⟩
    · unfold bgT;simp only[inB_iff];rw[if_pos (by omega),if_pos (by omega),if_pos (by omega)];rfl
    · unfold decodeN;rw[if_neg (by omega),if_neg (by omega),if_neg (by omega),if_pos (by omega),if_pos (by omega)]
    · unfold decodeN;rw[if_neg (by omega),if_neg (by omega),if_neg (by omega),if_pos (by omega),if_pos (by omega)];simp[numT];omega
  · refine .inl ⟨.inr ?_,?_⟩
    · unfold bgT;simp only[inB_iff]
      split
      · split
        · rw[if_neg (by omega)];simp
        · simp
      · simp
    · unfold decodeN;rw[if_neg (by omega),if_neg (by omega),if_neg (by omega)]
      split
      · rw[if_neg (by omega)]
      · rfl
theorem lead_3 (b0:Nat) (h:224≤b0∧b0<240):leadI b0=(3,((if b0=224 then 160 else 128:Nat):Int),((if b0=237 then 159 else 191:Nat):Int)):=by
  unfold leadI
  simp only[inB_iff,beq_iff_eq]
  repeat' split
  all_goals first|rfl|(exfalso;omega)
theorem lead_4 (b0:Nat) (h:240≤b0∧b0<245):leadI b0=(4,((if b0=240 then 144 else 128:Nat):Int),((if b0=244 then 143 else 191:Nat):Int)):=by
  unfold leadI
  simp only[inB_iff,beq_iff_eq]
  repeat' split
  all_goals first|rfl|(exfalso;omega)
theorem agree_all (N b0 b1 b2 b3:Nat) (hN:1≤N) (c0:b0<256) (c1:b1<256) (c2:b2<256) (c3:b3<256):Agree N b0 b1 b2 b3:=by
  by_cases h0:b0<128
  · exact agree_0 N b0 b1 b2 b3 hN h0
  by_cases h1:(128≤b0∧b0<194)∨245≤b0
  · exact agree_bad N b0 b1 b2 b3 h1 c0 c1 c2 c3
  by_cases h2:b0<224
  · exact agree_2 N b0 b1 b2 b3 (by omega) c1
  by_cases h3:b0<240
  · exact agree_3 N b0 b1 b2 b3 _ _ (by omega) (lead_3 b0 (by omega)) rfl rfl c1 c2
  · exact agree_4 N b0 b1 b2 b3 _ _ (by omega) (lead_4 b0 (by omega)) rfl rfl c1 c2 c3

def B (s:ByteArray) (i:Nat):Nat:=(s.data.toList.getD i 0).toNat
theorem bAt_B (s:ByteArray) (i:Nat):bAt s i=(B s i:Int):=rfl
theorem B_lt (s:ByteArray) (i:Nat):B s i<256:=by unfold B;have:=(s.data.toList.getD i 0).toNat_lt;omega
theorem get_B (s:ByteArray) (i:Nat):(s.get! i).toNat=B s i:=by
  unfold B
  by_cases h:i<s.size
  · have h1:s.get! i=s[i]'h:=by
      show s.data[i]! = s.data[i]
      rw[getElem!_pos s.data i (by exact h)]
    have h2:s.data.toList.getD i 0=s[i]'h:=by
      have h':i<s.data.toList.length:=by simpa using h
      rw[List.getD_eq_getElem?_getD,List.getElem?_eq_getElem h'];rfl
    rw[h1,h2]
  · have h1:s.get! i=default:=by
      show s.data[i]! = _
      rw[getElem!_neg s.data i (by exact h)]
    have h2:s.data.toList.getD i 0=0:=by
      rw[List.getD_eq_getElem?_getD,List.getElem?_eq_none (by simpa using h)];rfl
    rw[h1,h2];rfl
theorem decode_B (s:ByteArray) (i:Nat):Utf8.decode s i=decodeN (s.size-i) (B s i) (B s (i+1)) (B s (i+2)) (B s (i+3)):=by
  rw[decode_at,get_B,get_B,get_B,get_B]

theorem begunK_bg (s:ByteArray) (i:Nat) (n lo hi:Int) (h4:n≤4):(begunK s i n lo hi 4 1:Int)=bgT (n,lo,hi) (s.size-i) (B s (i+1)) (B s (i+2)) (B s (i+3)):=by
  have e1:∀k:Nat,(i+k<s.size)=(k<s.size-i):=fun k=>propext ⟨fun h=>by omega,fun h=>by omega⟩
  have st:∀f k,begunK s i n lo hi (f+1) k=if (k:Int)<n∧k<s.size-i∧begunC s i lo hi k=true then begunK s i n lo hi f (k+1) else k:=fun f k=>by simp only[←e1];rfl
  have c1:begunC s i lo hi 1=inB (B s (i+1)) lo hi:=rfl
  have c2:begunC s i lo hi 2=inB (B s (i+2)) 128 191:=rfl
  have c3:begunC s i lo hi 3=inB (B s (i+3)) 128 191:=rfl
  unfold bgT
  rw[st 3 1,c1]
  by_cases h1:(1:Int)<n∧1<s.size-i∧inB (B s (i+1)) lo hi=true
  · rw[if_pos (by exact h1),if_pos h1,st 2 2,c2]
    by_cases h2:(2:Int)<n∧2<s.size-i∧inB (B s (i+2)) 128 191=true
    · rw[if_pos (by exact h2),if_pos h2,st 1 3,c3]
      by_cases h3:(3:Int)<n∧3<s.size-i∧inB (B s (i+3)) 128 191=true
      · rw[if_pos (by exact h3),if_pos h3,st 0 4,if_neg (by omega)];rfl
      · rw[if_neg (by exact h3),if_neg h3];rfl
    · rw[if_neg (by exact h2),if_neg h2];rfl
  · rw[if_neg (by exact h1),if_neg h1];rfl

theorem begunI_eq (s:ByteArray) (i:Nat):begunI s i=if (leadI (B s i)).1=0 then ((0:Int),(0:Int)) else (bgT (leadI (B s i)) (s.size-i) (B s (i+1)) (B s (i+2)) (B s (i+3)),(leadI (B s i)).1):=by
  unfold begunI
  rw[begunK_bg _ _ _ _ _ (leadI_bd _).2]
  simp[bAt_B]

theorem unit_at (s:ByteArray) (i:Nat) (h:i<s.size) :
    (wideI s i=0∧Utf8.decode s i=(65533,1)) ∨
    (∃w:Nat,1≤w∧w≤4∧i+w≤s.size∧wideI s i=w∧(Utf8.decode s i).2=w∧((Utf8.decode s i).1:Int)=numT w (B s i) (B s (i+1)) (B s (i+2)) (B s (i+3))):=by
  have ha:=agree_all (s.size-i) (B s i) (B s (i+1)) (B s (i+2)) (B s (i+3)) (by omega) (B_lt _ _) (B_lt _ _) (B_lt _ _) (B_lt _ _)
  unfold Agree at ha
  rw[←decode_B] at ha
  unfold wideI
  rw[begunI_eq]
  rcases ha with ⟨h1,h2⟩|⟨w,w1,w4,wN,hl,hb,hd,hn⟩
  · refine .inl ⟨?_,h2⟩
    by_cases hz:(leadI (B s i)).1=0
    · rw[if_pos hz];rfl
    · rw[if_neg hz]
      have hne:=h1.resolve_left hz
      simp[hne]
  · refine .inr ⟨w,w1,w4,by omega,?_,hd,hn⟩
    have hw0:w≠0:=by omega
    simp[hl,hb,hw0]

theorem bAt_extract (s:ByteArray) (i w j:Nat) (hj:j<w) (hw:i+w≤s.size):bAt (s.extract i (i+w)) j=B s (i+j):=by
  have hz:(s.extract i (i+w)).size=w:=by rw[ByteArray.size_extract];omega
  have h1:=bAt_eq (s.extract i (i+w)) j (by omega)
  have h2:=bAt_eq s (i+j) (by omega)
  rw[h1,←bAt_B,h2,ByteArray.getElem_extract]
theorem numI_extract (s:ByteArray) (i w:Nat) (h1:1≤w) (h4:w≤4) (hw:i+w≤s.size):numI (s.extract i (i+w))=numT w (B s i) (B s (i+1)) (B s (i+2)) (B s (i+3)):=by
  have hz:(s.extract i (i+w)).size=w:=by rw[ByteArray.size_extract];omega
  unfold numI numT
  rw[hz]
  have e:∀j,j<w→bAt (s.extract i (i+w)) j=B s (i+j):=fun j hj=>bAt_extract s i w j hj hw
  rcases (by omega:w=1∨w=2∨w=3∨w=4) with h|h|h|h
  · subst h;simp[e]
  · subst h;simp[e]
  · subst h;simp[e]
  · subst h;simp[e]
end Go.Proofs.YtgpbaeehajkebaaGreatDoor
namespace Go.Proofs.YtgpbaeehajkebaaGreatDoor
open Go Go.RowKit Go.Kt Go.Kt.Os Go.Sort

set_option maxRecDepth 100000 in
set_option maxHeartbeats 8000000 in
theorem oSift (blk off cap lo hi F n:Nat) (d:Array Int) (w:World) (hn:d.size=n) (hH:Holds E32 w blk off d) (hlo:lo≤hi) (hb:F+hi≤n) (hsz:n<4611686018427387904) :
    Calls Tryz.prog 171 #[.slice (some ⟨blk,off,none⟩) n cap,.int .i64 lo,.int .i64 hi,.int .i64 F] w fun e w' =>
      e = .returned (.tuple #[])∧SW w blk off (siftDown ltInt hi F lo d) w':=by
  have H0:=Lib.hid (SW.refl hH)
  have HN:=Lib.hid hn
  clear hH hn
  go_enter Tryz.func171,Tryz.ntmps171
  go_wp2
  go_loopw [8] (fun vr wr=>∃(r:Nat) (dk:Array Int),vr = .int .i64 r∧r≤hi∧Hid (dk.size=n∧SW w blk off dk wr∧siftDown ltInt hi F r dk=siftDown ltInt hi F lo d)) (fun vr _=>hi-(RowKit.intOf vr).toNat)
  case atStart=>exact⟨lo,d,rfl,hlo,Lib.hid ⟨HN.out,H0.out,rfl⟩⟩
  case round =>
    obtain⟨r,dk,rfl,hr,hh⟩:=hrel
    obtain⟨G,hG⟩:∃G:Nat→Int,∀t,G t=dk[t]!:=⟨fun t=>dk[t]!,fun _=>rfl⟩
    have hcw:=hh.out.2.1.cells hG hh.out.1
    have hfw:=hh.out.2.1.thaw hh.out.1
    have HG:=Lib.hid hG
    clear hG
    by_cases h0:hi≤2*r+1
    · have h0z:(hi:Int)≤2*(r:Int)+1:=by omega
      go_wp2
      go_end0
      refine⟨rfl,?_⟩
      rw[←hh.out.2.2,sd_end ltInt dk h0]
      exact hh.out.2.1
    · have h0z:¬((hi:Int)≤2*(r:Int)+1):=by omega
      by_cases h1:2*r+2<hi
      · have h1z:2*(r:Int)+1+1<(hi:Int):=by omega
        go_wp2_with fail
        go_big_quiet (first|(go_at_call 133;refine Calls.quiet_of_same (oLess _ _ _)))
        go_wp2_with fail
        · have hL:ltInt (G (F+2*r+1)) (G (F+2*r+2))=true:=by assumption
          have HS:=Lib.hid (hh.out.2.1.drewN nq)
          clear hcw hfw
          generalize wr.drewN nq=wr2 at HS ⊢
          clear nq
          have hcw2:=HS.out.cells HG.out hh.out.1
          have hfw2:=HS.out.thaw hh.out.1
          go_big_quiet (first|(go_at_call 133;refine Calls.quiet_of_same (oLess _ _ _)))
          go_wp2_with fail
          · have hS:ltInt (G (F+r)) (G (F+2*r+2))=false:=by
              have:(!ltInt (G (F+r)) (G (F+2*r+2)))=true:=by assumption
              simpa using this
            (try simp only[Exit.inBlock,Exit.then]);refine bodyPost_ret (results_none rfl _ _ _) rfl ?_
            refine⟨rfl,?_⟩
            rw[←hh.out.2.2,sd_r ltInt dk h1 (by rw[←HG.out,←HG.out];exact hL),if_neg (by rw[←HG.out,←HG.out,hS];exact Bool.false_ne_true)]
            exact HS.out.drewN nq
          · have hS:ltInt (G (F+r)) (G (F+2*r+2))=true:=by
              have:(!ltInt (G (F+r)) (G (F+2*r+2)))=false:=by assumption
              simpa using this
            have HS3:=Lib.hid (HS.out.drewN nq)
            clear hcw2 hfw2
            generalize wr2.drewN nq=wr3 at HS3 ⊢
            have hcw3:=HS3.out.cells HG.out hh.out.1
            have hfw3:=HS3.out.thaw hh.out.1
            go_region
            all_goals go_wp2
            go_roundw
            case rel =>
              refine⟨2*r+2,swp dk (F+r) (F+2*r+2),by go_num,by omega,Lib.hid ⟨by rw[size_swp];exact hh.out.1,HS3.out.swapq HG.out (by have:=hh.out.1;omega) (by have:=hh.out.1;omega) 0 1,?_⟩⟩
              rw[←hh.out.2.2,sd_r ltInt dk h1 (by rw[←HG.out,←HG.out];exact hL),if_pos (by rw[←HG.out,←HG.out];exact hS)]
            case measure=>simp[RowKit.intOf];omega
        · have hL:ltInt (G (F+2*r+1)) (G (F+2*r+2))=false:=by assumption
          have HS:=Lib.hid (hh.out.2.1.drewN nq)
          clear hcw hfw
          generalize wr.drewN nq=wr2 at HS ⊢
          clear nq
          have hcw2:=HS.out.cells HG.out hh.out.1
          have hfw2:=HS.out.thaw hh.out.1
          go_big_quiet (first|(go_at_call 133;refine Calls.quiet_of_same (oLess _ _ _)))
          go_wp2_with fail
          · have hS:ltInt (G (F+r)) (G (F+2*r+1))=false:=by
              have:(!ltInt (G (F+r)) (G (F+2*r+1)))=true:=by assumption
              simpa using this
            (try simp only[Exit.inBlock,Exit.then]);refine bodyPost_ret (results_none rfl _ _ _) rfl ?_
            refine⟨rfl,?_⟩
            rw[←hh.out.2.2,sd_l ltInt dk (by omega) (.inr (by rw[←HG.out,←HG.out];exact hL)),if_neg (by rw[←HG.out,←HG.out,hS];exact Bool.false_ne_true)]
            exact HS.out.drewN nq
          · have hS:ltInt (G (F+r)) (G (F+2*r+1))=true:=by
              have:(!ltInt (G (F+r)) (G (F+2*r+1)))=false:=by assumption
              simpa using this
            have HS3:=Lib.hid (HS.out.drewN nq)
            clear hcw2 hfw2
            generalize wr2.drewN nq=wr3 at HS3 ⊢
            have hcw3:=HS3.out.cells HG.out hh.out.1
            have hfw3:=HS3.out.thaw hh.out.1
            go_region
            all_goals go_wp2
            go_roundw
            case rel =>
              refine⟨2*r+1,swp dk (F+r) (F+2*r+1),by go_num,by omega,Lib.hid ⟨by rw[size_swp];exact hh.out.1,HS3.out.swapq HG.out (by have:=hh.out.1;omega) (by have:=hh.out.1;omega) 0 1,?_⟩⟩
              rw[←hh.out.2.2,sd_l ltInt dk (by omega) (.inr (by rw[←HG.out,←HG.out];exact hL)),if_pos (by rw[←HG.out,←HG.out];exact hS)]
            case measure=>simp[RowKit.intOf];omega
      · have h1z:decide (2*(r:Int)+1+1<(hi:Int))=false:=decide_eq_false (by omega)
        go_wp2_with fail
        go_big_quiet (first|(go_at_call 133;refine Calls.quiet_of_same (oLess _ _ _)))
        go_wp2_with fail
        have HS:=Lib.hid (hh.out.2.1.drewN nq)
        clear hcw hfw
        generalize wr.drewN nq=wr2 at HS ⊢
        clear nq
        have hcw2:=HS.out.cells HG.out hh.out.1
        have hfw2:=HS.out.thaw hh.out.1
        go_big_quiet (first|(go_at_call 133;refine Calls.quiet_of_same (oLess _ _ _)))
        go_wp2_with fail
        · have hS:ltInt (G (F+r)) (G (F+2*r+1))=false:=by
            have:(!ltInt (G (F+r)) (G (F+2*r+1)))=true:=by assumption
            simpa using this
          (try simp only[Exit.inBlock,Exit.then]);refine bodyPost_ret (results_none rfl _ _ _) rfl ?_
          refine⟨rfl,?_⟩
          rw[←hh.out.2.2,sd_l ltInt dk (by omega) (.inl h1),if_neg (by rw[←HG.out,←HG.out,hS];exact Bool.false_ne_true)]
          exact HS.out.drewN nq
        · have hS:ltInt (G (F+r)) (G (F+2*r+1))=true:=by
            have:(!ltInt (G (F+r)) (G (F+2*r+1)))=false:=by assumption
            simpa using this
          have HS3:=Lib.hid (HS.out.drewN nq)
          clear hcw2 hfw2
          generalize wr2.drewN nq=wr3 at HS3 ⊢
          have hcw3:=HS3.out.cells HG.out hh.out.1
          have hfw3:=HS3.out.thaw hh.out.1
          go_region
          all_goals go_wp2
          go_roundw
          case rel =>
            refine⟨2*r+1,swp dk (F+r) (F+2*r+1),by go_num,by omega,Lib.hid ⟨by rw[size_swp];exact hh.out.1,HS3.out.swapq HG.out (by have:=hh.out.1;omega) (by have:=hh.out.1;omega) 0 1,?_⟩⟩
            rw[←hh.out.2.2,sd_l ltInt dk (by omega) (.inl h1),if_pos (by rw[←HG.out,←HG.out];exact hS)]
          case measure=>simp[RowKit.intOf];omega

theorem half_up {a b:Nat} (h:a≤b):((b:Int)-(a:Int)-1).tdiv 2=(((b-a-1)/2+1:Nat):Int)-1:=by
  obtain⟨c,rfl⟩:∃c,b=a+c:=⟨b-a,by omega⟩
  rcases Nat.eq_zero_or_pos c with h0|h0
  · subst h0
    rw[show ((a+0:Nat):Int)-(a:Int)-1 = -1 by omega,show a+0-a-1=0 by omega]
    decide
  · rw[show ((a+c:Nat):Int)-(a:Int)-1=((c-1:Nat):Int) by omega,show a+c-a-1=c-1 by omega,Int.tdiv_eq_ediv_of_nonneg (by omega)]
    omega

set_option maxRecDepth 100000 in
set_option maxHeartbeats 1000000 in
theorem oHeap (blk off cap a b n:Nat) (d:Array Int) (w:World) (hn:d.size=n) (hH:Holds E32 w blk off d) (hab:a≤b) (hb:b≤n) (hsz:n<4611686018427387904) :
    Calls Tryz.prog 150 #[.slice (some ⟨blk,off,none⟩) n cap,.int .i64 a,.int .i64 b] w fun e w' =>
      e = .returned (.tuple #[])∧SW w blk off (heapSort ltInt d a b) w':=by
  have H0:=Lib.hid (SW.refl hH)
  have HN:=Lib.hid hn
  clear hH hn
  have EC:=Lib.hid (show ((b-a:Nat):Int)=(b:Int)-(a:Int) by omega)
  have EH:=Lib.hid (half_up hab)
  have EB:=Lib.hid (show heapSort ltInt d a b=heapPop ltInt a (b-a) (heapBuild ltInt (b-a) a ((b-a-1)/2+1) d) from rfl)
  go_enter Tryz.func150,Tryz.ntmps150
  go_wp2
  go_loopw [9] (fun vk wr=>∃(k:Nat) (dk:Array Int),vk = .int .i64 ((k:Int)-1)∧k≤(b-a-1)/2+1∧Hid (dk.size=n∧SW w blk off dk wr∧heapBuild ltInt (b-a) a k dk=heapBuild ltInt (b-a) a ((b-a-1)/2+1) d)) (fun vk _=>(RowKit.intOf vk+1).toNat)
  case atStart=>exact⟨_,d,by rw[←EH.out],Nat.le_refl _,Lib.hid ⟨HN.out,H0.out,rfl⟩⟩
  case round =>
    obtain⟨k,dk,hv,hk,hg⟩:=hrel
    cases k with
    | zero =>
      replace hv:=hv.trans (show Value.int .i64 (((0:Nat):Int)-1) = .int .i64 (-1) from rfl)
      subst hv
      go_wp2
      go_loopw [10] (fun vk wr=>∃(k:Nat) (dj:Array Int),vk = .int .i64 ((k:Int)-1)∧k≤b-a∧Hid (dj.size=n∧SW w blk off dj wr∧heapPop ltInt a k dj=heapPop ltInt a (b-a) dk)) (fun vk _=>(RowKit.intOf vk+1).toNat)
      case atStart=>exact⟨b-a,dk,by rw[EC.out],Nat.le_refl _,Lib.hid ⟨hg.out.1,hg.out.2.1,rfl⟩⟩
      case round =>
        obtain⟨k,dj,hv,hk,hp⟩:=hrel
        cases k with
        | zero =>
          replace hv:=hv.trans (show Value.int .i64 (((0:Nat):Int)-1) = .int .i64 (-1) from rfl)
          subst hv
          go_wp2
          go_end0
          refine⟨rfl,?_⟩
          rw[EB.out,←hg.out.2.2]
          show SW w blk off (heapPop ltInt a (b-a) dk) _
          rw[←hp.out.2.2]
          exact hp.out.2.1
        | succ k =>
          replace hv:=hv.trans (show Value.int .i64 (((k+1:Nat):Int)-1) = .int .i64 (k:Int) by congr 1;omega)
          subst hv
          obtain⟨G,hG⟩:∃G:Nat→Int,∀t,G t=dj[t]!:=⟨fun t=>dj[t]!,fun _=>rfl⟩
          have hcw:=hp.out.2.1.cells hG hp.out.1
          have hfw:=hp.out.2.1.thaw hp.out.1
          have HG:=Lib.hid hG
          clear hG
          have hk0:(0:Int)≤(k:Int):=by omega
          obtain⟨v',hy⟩:=cell?_setCell_some (w:=wr) (p:=⟨blk,off+a,none⟩) (x:=.int .i32 (G (a+k))) (q:=⟨blk,off+(a+k),none⟩) (hcw (a+k) (by omega))
          have HS:=Lib.hid (SW.swapq hp.out.2.1 HG.out (i:=a) (j:=a+k) (by have:=hp.out.1;omega) (by have:=hp.out.1;omega))
          go_wp2
          go_region
          all_goals go_wp2_with fail
          have HS5:SW w blk off (swp dj a (a+k)) (((wr.setCell ⟨blk,off+a,none⟩ (.int .i32 (G (a+k)))).setCell ⟨blk,off+(a+k),none⟩ (.int .i32 (G a))).drew):=HS.out 0 1
          generalize ((wr.setCell ⟨blk,off+a,none⟩ (.int .i32 (G (a+k)))).setCell ⟨blk,off+(a+k),none⟩ (.int .i32 (G a))).drew=W5 at HS5 ⊢
          have C0:=oSift blk off cap 0 k a n (swp dj a (a+k)) W5 (by rw[size_swp];exact hp.out.1) HS5.holds (by omega) (by omega) hsz
          rw[show ((0:Nat):Int)=0 from rfl] at C0
          refine C0.mono ?_
          rintro e w1 ⟨rfl,hS⟩
          go_wp2
          go_roundw
          case rel=>exact⟨k,siftDown ltInt k a 0 (swp dj a (a+k)),rfl,by omega,Lib.hid ⟨by rw[size_siftDown ltInt _ _ _ _ _ (Nat.le_refl _),size_swp];exact hp.out.1,HS5.trans hS,hp.out.2.2⟩⟩
          case measure=>simp[RowKit.intOf]
    | succ k =>
      replace hv:=hv.trans (show Value.int .i64 (((k+1:Nat):Int)-1) = .int .i64 (k:Int) by congr 1;omega)
      subst hv
      have hk0:(0:Int)≤(k:Int):=by omega
      have C0:=oSift blk off cap k (b-a) a n dk wr hg.out.1 hg.out.2.1.holds (by omega) (by omega) hsz
      rw[EC.out] at C0
      have C:=Lib.hid C0
      clear C0
      go_wp2_with (go_at_call 171;refine C.out.mono ?_;rintro e w1 ⟨rfl,hS⟩)
      go_roundw
      case rel=>exact⟨k,siftDown ltInt (b-a) a k dk,rfl,by omega,Lib.hid ⟨by rw[size_siftDown ltInt _ _ _ _ _ (Nat.le_refl _)];exact hg.out.1,hg.out.2.1.trans hS,hg.out.2.2⟩⟩
      case measure=>simp[RowKit.intOf]
end Go.Proofs.YtgpbaeehajkebaaGreatDoor
