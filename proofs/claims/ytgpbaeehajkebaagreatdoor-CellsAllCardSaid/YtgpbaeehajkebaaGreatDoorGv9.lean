/- Parts of the proof of what the last text says. -/
import Derived.Test.YtgpbaeehajkebaaGreatDoorGv4
import Derived.Test.YtgpbaeehajkebaaGreatDoorGv8
import Derived.Test.YtgpbaeehajkebaaGreatDoorProg
import Derived.Test.YtgpbaeehajkebaaGreatDoorGv2
import Derived.Test.YtgpbaeehajkebaaGreatDoorGv6
import Derived.Lib.Hide
import Derived.Deep.QuietTactic
import Derived.BigQuiet
import Derived.Lib.TrimUEq
import Derived.Test.YtgpbaeehajkebaaGreatDoorGv3
import Derived.WalkSpells
import Derived.WalkLawsBesides
namespace Go.Proofs.YtgpbaeehajkebaaGreatDoor
open Go Go.RowKit Go.Lib

def decP (s:ByteArray) (a:Int):Int × Int :=
  if 0≤a∧a<s.size then (((Utf8.decode s a.toNat).1:Int),((Utf8.decode s a.toNat).2:Int)) else (65533,0)
theorem decP_in (s:ByteArray) (i:Nat) (h:i<s.size):decP s i=(((Utf8.decode s i).1:Int),((Utf8.decode s i).2:Int)):=by
  unfold decP;rw[if_pos (by omega)];simp
theorem decP_out (s:ByteArray) (a:Int) (h:a<0∨s.size≤a):decP s a=(65533,0):=by
  unfold decP;rw[if_neg (by omega)]
set_option maxRecDepth 100000 in
theorem refDecode_any (s:ByteArray) (a:Int) (w:World) (hs:s.size≤4611686018427387904) :
    Calls Tryz.prog 78 #[.string s,.int .i64 a] w fun e w'=>e = .returned (.tuple #[.int .i32 (decP s a).1,.int .i64 (decP s a).2])∧w=w':=by
  by_cases hin:0≤a∧a<s.size
  · obtain⟨i,rfl⟩:=Int.eq_ofNat_of_zero_le hin.1
    have hi:i<s.size:=by omega
    have H:=Lib.hid (decP_in s i hi)
    generalize decP s i=R at H ⊢
    have hd:=unit_at s i hi
    rcases hd with ⟨h1,h2⟩|⟨v,h1,h4,hw,he,hd2,hd1⟩
    · rw[h2] at H
      have HW:Hid (∀w,Calls Tryz.prog 112 #[.string s,.int .i64 i] w fun e w'=>e = .returned (.int .i64 0)∧w=w'):=Lib.hid fun w=>by
        have:=wide_any s i w hi hs;rw[h1] at this;exact this
      clear h1 h2
      go_enter Tryz.func78,Tryz.ntmps78
      go_wp2_with (go_at_call 112;refine (HW.out _).mono ?_;rintro e w' ⟨rfl,rfl⟩)
      go_ret2
      rw[H.out];exact⟨rfl,rfl⟩
    · have HN:Hid (∀w,Calls Tryz.prog 113 #[.string (s.extract i (i+v))] w fun e w'=>e = .returned (.int .i32 R.1)∧w=w'):=Lib.hid fun w=>by
        have:=number_any (s.extract i (i+v)) w (by rw[ByteArray.size_extract];omega) (by rw[ByteArray.size_extract];omega)
        rw[numI_extract s i v h1 h4 hw,←hd1] at this
        rw[H.out];exact this
      have HW:Hid (∀w,Calls Tryz.prog 112 #[.string s,.int .i64 i] w fun e w'=>e = .returned (.int .i64 v)∧w=w'):=Lib.hid fun w=>by
        have:=wide_any s i w hi hs;rw[he] at this;exact this
      have H2:Hid (R.2=v):=Lib.hid (by rw[H.out];simp[hd2])
      have hv0:((v:Int)==0)=false:=by simp;omega
      clear H hd2 hd1 he
      go_enter Tryz.func78,Tryz.ntmps78
      go_wp2_with (first|(go_at_call 112;refine (HW.out _).mono ?_;rintro e w' ⟨rfl,rfl⟩)|(go_at_call 113;refine (HN.out _).mono ?_;rintro e w' ⟨rfl,rfl⟩))
      go_ret2
      rw[H2.out];exact⟨rfl,rfl⟩
  · have H:=Lib.hid (decP_out s a (by omega))
    generalize decP s a=R at H ⊢
    by_cases h0:a<0
    · go_enter Tryz.func78,Tryz.ntmps78
      go_wp2
      go_ret2
      rw[H.out];exact⟨rfl,rfl⟩
    · go_enter Tryz.func78,Tryz.ntmps78
      go_wp2
      go_ret2
      rw[H.out];exact⟨rfl,rfl⟩

theorem B_extract (s:ByteArray) (i n k:Nat) (hn:i+n≤s.size) (h:k<n):B (s.extract i (i+n)) k=B s (i+k):=by
  have:=bAt_extract s i n k h hn
  rw[bAt_B] at this
  exact_mod_cast this
theorem B_out (s:ByteArray) (k:Nat) (h:s.size≤k):B s k=0:=by
  unfold B
  rw[List.getD_eq_getElem?_getD,List.getElem?_eq_none (by simpa using h)];rfl
theorem B_tail (s:ByteArray) (i k:Nat) (hi:i≤s.size):B (s.extract i s.size) k=B s (i+k):=by
  have hz:(s.extract i s.size).size=s.size-i:=by rw[ByteArray.size_extract];omega
  by_cases h:k<s.size-i
  · have:=B_extract s i (s.size-i) k (by omega) h
    rw[show i+(s.size-i)=s.size by omega] at this
    exact this
  · rw[B_out _ _ (by omega),B_out _ _ (by omega)]
theorem decode_tail (s:ByteArray) (i:Nat) (hi:i<s.size):decodeGo (s.extract i s.size)=Utf8.decode s i:=by
  have hz:(s.extract i s.size).size=s.size-i:=by rw[ByteArray.size_extract];omega
  unfold decodeGo
  rw[if_neg (by omega),decode_B,decode_B,hz]
  simp only[B_tail s i _ (by omega),Nat.sub_zero,Nat.zero_add,Nat.add_zero]

theorem tabs_below {w w':World} {n:Nat} (hT:Utf8Tabs 3 4 w) (hn:5≤n) (hb:Below n w w'):Utf8Tabs 3 4 w' :=
  ⟨fun c hc=>(hb.cell (p:=⟨3,c,none⟩) (by show 3<n;omega)).trans (hT.1 c hc),fun i hi=>⟨(hb.cell (p:=⟨4,2*i,none⟩) (by show 4<n;omega)).trans (hT.2 i hi).1,(hb.cell (p:=⟨4,2*i+1,none⟩) (by show 4<n;omega)).trans (hT.2 i hi).2⟩⟩

theorem utfDecode_any (s:ByteArray) (a:Int) (w:World) (hT:Utf8Tabs 3 4 w) (_hs:s.size≤4611686018427387904) :
    Calls Tryz.prog 44 #[.string s,.int .i64 a] w fun e w'=>e = .returned (.tuple #[.int .i32 (decP s a).1,.int .i64 (decP s a).2])∧Below w.heap.size w w':=by
  have HT:=Lib.hid hT;clear hT
  by_cases hin:0≤a∧a<s.size
  · obtain⟨i,rfl⟩:=Int.eq_ofNat_of_zero_le hin.1
    have hi:i<s.size:=by omega
    have H:=Lib.hid (decP_in s i hi)
    generalize decP s i=R at H ⊢
    have HD:Hid (∀w,Utf8Tabs 3 4 w→Calls Tryz.prog 82 #[.string (s.extract i s.size)] w fun e w'=>e = .returned (.tuple #[.int .i32 R.1,.int .i64 R.2])∧Below w.heap.size w w'):=Lib.hid fun w hT=>by
      have:=Tryz.utf8_DecodeRuneInString (s.extract i s.size) w hT
      rw[decode_tail s i hi] at this
      rw[H.out];exact this
    clear H
    go_enter Tryz.func44,Tryz.ntmps44
    go_wp2_with (go_at_call 82;refine (HD.out _ HT.out).mono ?_;rintro e w' ⟨rfl,hb⟩)
    go_ret2
    exact⟨rfl,hb⟩
  · have H:=Lib.hid (decP_out s a (by omega))
    generalize decP s a=R at H ⊢
    by_cases h0:a<0
    · go_enter Tryz.func44,Tryz.ntmps44
      go_wp2
      go_ret2
      rw[H.out];exact⟨rfl,Below.refl _ _⟩
    · go_enter Tryz.func44,Tryz.ntmps44
      go_wp2
      go_ret2
      rw[H.out];exact⟨rfl,Below.refl _ _⟩
end Go.Proofs.YtgpbaeehajkebaaGreatDoor
namespace Go.Proofs.YtgpbaeehajkebaaGreatDoor
open Go Go.RowKit Go.Kt Go.Kt.Rg
def sylP (r:Int):Bool:=decide (44032≤r)&&decide (r<55204)
def leadP (r:Int):Bool:=decide (4352≤r)&&decide (r<4371)
def vowP (r:Int):Bool:=decide (4449≤r)&&decide (r<4470)
def tailP (r:Int):Bool:=decide (4520≤r)&&decide (r<4547)
def hanP (r:Int):Bool:=sylP r||leadP r||vowP r||tailP r
set_option maxRecDepth 100000 in
theorem psyl (r:Int) (w:World):Calls Tryz.prog 101 #[.int .i32 r] w fun e w'=>e = .returned (.bool (sylP r))∧w'=w:=by
 by_cases h1:44032≤r
 ·by_cases h2:r<55204
  ·have HX:Hid (sylP r=true):=Lib.hid (by simp[sylP,h1,h2])
   go_enter Tryz.func101,Tryz.ntmps101
   go_wp2
   go_ret
   exact⟨by rw[HX.out];(first|rfl|(show Ending.returned (Value.bool (decide _))=_;rw[decide_eq_false (by omega)])),rfl⟩
  ·have HX:Hid (sylP r=false):=Lib.hid (by simp[sylP,h1,h2])
   have h3:55204≤r:=by omega
   clear h2
   go_enter Tryz.func101,Tryz.ntmps101
   go_wp2
   go_ret
   exact⟨by rw[HX.out];(first|rfl|(show Ending.returned (Value.bool (decide _))=_;rw[decide_eq_false (by omega)])),rfl⟩
 ·have HX:Hid (sylP r=false):=Lib.hid (by simp[sylP,h1])
  have h3:r<44032:=by omega
  clear h1
  go_enter Tryz.func101,Tryz.ntmps101
  go_wp2
  go_ret
  exact⟨by rw[HX.out];(first|rfl|(show Ending.returned (Value.bool (decide _))=_;rw[decide_eq_false (by omega)])),rfl⟩
set_option maxRecDepth 100000 in
theorem plead (r:Int) (w:World):Calls Tryz.prog 124 #[.int .i32 r] w fun e w'=>e = .returned (.bool (leadP r))∧w'=w:=by
 by_cases h1:4352≤r
 ·by_cases h2:r<4371
  ·have HX:Hid (leadP r=true):=Lib.hid (by simp[leadP,h1,h2])
   go_enter Tryz.func124,Tryz.ntmps124
   go_wp2
   go_ret
   exact⟨by rw[HX.out];(first|rfl|(show Ending.returned (Value.bool (decide _))=_;rw[decide_eq_false (by omega)])),rfl⟩
  ·have HX:Hid (leadP r=false):=Lib.hid (by simp[leadP,h1,h2])
   have h3:4371≤r:=by omega
   clear h2
   go_enter Tryz.func124,Tryz.ntmps124
   go_wp2
   go_ret
   exact⟨by rw[HX.out];(first|rfl|(show Ending.returned (Value.bool (decide _))=_;rw[decide_eq_false (by omega)])),rfl⟩
 ·have HX:Hid (leadP r=false):=Lib.hid (by simp[leadP,h1])
  have h3:r<4352:=by omega
  clear h1
  go_enter Tryz.func124,Tryz.ntmps124
  go_wp2
  go_ret
  exact⟨by rw[HX.out];(first|rfl|(show Ending.returned (Value.bool (decide _))=_;rw[decide_eq_false (by omega)])),rfl⟩
set_option maxRecDepth 100000 in
theorem pvow (r:Int) (w:World):Calls Tryz.prog 125 #[.int .i32 r] w fun e w'=>e = .returned (.bool (vowP r))∧w'=w:=by
 by_cases h1:4449≤r
 ·by_cases h2:r<4470
  ·have HX:Hid (vowP r=true):=Lib.hid (by simp[vowP,h1,h2])
   go_enter Tryz.func125,Tryz.ntmps125
   go_wp2
   go_ret
   exact⟨by rw[HX.out];(first|rfl|(show Ending.returned (Value.bool (decide _))=_;rw[decide_eq_false (by omega)])),rfl⟩
  ·have HX:Hid (vowP r=false):=Lib.hid (by simp[vowP,h1,h2])
   have h3:4470≤r:=by omega
   clear h2
   go_enter Tryz.func125,Tryz.ntmps125
   go_wp2
   go_ret
   exact⟨by rw[HX.out];(first|rfl|(show Ending.returned (Value.bool (decide _))=_;rw[decide_eq_false (by omega)])),rfl⟩
 ·have HX:Hid (vowP r=false):=Lib.hid (by simp[vowP,h1])
  have h3:r<4449:=by omega
  clear h1
  go_enter Tryz.func125,Tryz.ntmps125
  go_wp2
  go_ret
  exact⟨by rw[HX.out];(first|rfl|(show Ending.returned (Value.bool (decide _))=_;rw[decide_eq_false (by omega)])),rfl⟩
set_option maxRecDepth 100000 in
theorem ptail (r:Int) (w:World):Calls Tryz.prog 126 #[.int .i32 r] w fun e w'=>e = .returned (.bool (tailP r))∧w'=w:=by
 by_cases h1:4520≤r
 ·by_cases h2:r<4547
  ·have HX:Hid (tailP r=true):=Lib.hid (by simp[tailP,h1,h2])
   go_enter Tryz.func126,Tryz.ntmps126
   go_wp2
   go_ret
   exact⟨by rw[HX.out];(first|rfl|(show Ending.returned (Value.bool (decide _))=_;rw[decide_eq_false (by omega)])),rfl⟩
  ·have HX:Hid (tailP r=false):=Lib.hid (by simp[tailP,h1,h2])
   have h3:4547≤r:=by omega
   clear h2
   go_enter Tryz.func126,Tryz.ntmps126
   go_wp2
   go_ret
   exact⟨by rw[HX.out];(first|rfl|(show Ending.returned (Value.bool (decide _))=_;rw[decide_eq_false (by omega)])),rfl⟩
 ·have HX:Hid (tailP r=false):=Lib.hid (by simp[tailP,h1])
  have h3:r<4520:=by omega
  clear h1
  go_enter Tryz.func126,Tryz.ntmps126
  go_wp2
  go_ret
  exact⟨by rw[HX.out];(first|rfl|(show Ending.returned (Value.bool (decide _))=_;rw[decide_eq_false (by omega)])),rfl⟩
set_option maxRecDepth 100000 in
theorem phan (r:Int) (w:World):Calls Tryz.prog 94 #[.int .i32 r] w fun e w'=>e = .returned (.bool (hanP r))∧w'=w:=by
 have C1:=Lib.hid (fun W=>psyl r W)
 have C2:=Lib.hid (fun W=>plead r W)
 have C3:=Lib.hid (fun W=>pvow r W)
 have C4:=Lib.hid (fun W=>ptail r W)
 have HX:Hid (hanP r=(sylP r||leadP r||vowP r||tailP r)):=Lib.hid rfl
 generalize sylP r=b1 at C1 HX
 generalize leadP r=b2 at C2 HX
 generalize vowP r=b3 at C3 HX
 generalize tailP r=b4 at C4 HX
 go_enter Tryz.func94,Tryz.ntmps94
 go_wp2_with fail
 refine (C1.out w).mono ?_
 rintro e w1 ⟨rfl,rfl⟩
 cases b1 with
 | true =>
   go_wp2
   go_ret
   exact⟨by rw[HX.out];rfl,rfl⟩
 | false =>
   go_wp2_with fail
   refine (C2.out w1).mono ?_
   rintro e w2 ⟨rfl,rfl⟩
   cases b2 with
   | true =>
     go_wp2
     go_ret
     exact⟨by rw[HX.out];rfl,rfl⟩
   | false =>
     go_wp2_with fail
     refine (C3.out w2).mono ?_
     rintro e w3 ⟨rfl,rfl⟩
     cases b3 with
     | true =>
       go_wp2
       go_ret
       exact⟨by rw[HX.out];rfl,rfl⟩
     | false =>
       go_wp2_with fail
       refine (C4.out w3).mono ?_
       rintro e w4 ⟨rfl,rfl⟩
       go_wp2
       go_ret
       exact⟨by rw[HX.out];rfl,rfl⟩
end Go.Proofs.YtgpbaeehajkebaaGreatDoor
namespace Go.Proofs.YtgpbaeehajkebaaGreatDoor
open Go Go.RowKit Go.Kt Go.Kt.Rg
def synP (a b:Int):Option Int :=
 if leadP a&&vowP b then some (44032+((a-4352)*21+b-4449)*28) else if sylP a&&decide ((a-44032) % 28=0)&&tailP b then some (a+1+b-4520) else none
end Go.Proofs.YtgpbaeehajkebaaGreatDoor
namespace Go.Proofs.YtgpbaeehajkebaaGreatDoor
open Go Go.RowKit Go.Kt
def Sl (k:IntKind) (W:World) (v:Value) (l:List Int):Prop :=
 ∃ao cap,v = .slice ao l.length cap∧(l=[]∨∃g off,ao=some ⟨g,off,none⟩∧∀i x,l[i]? = some x→W.cell? ⟨g,off+i,none⟩=some (.int k x))
theorem Sl.keep {k:IntKind} {X:Nat→Prop} {A B:World} {v:Value} {l:List Int} (h:Sl k A v l) (hk:Keep X A B) (hX:∀ao n cap,v = .slice ao n cap→∀g off,ao=some ⟨g,off,none⟩→¬X g):Sl k B v l:=by
 obtain⟨ao,cap,rfl,h⟩:=h
 refine⟨ao,cap,rfl,?_⟩
 rcases h with h|⟨g,off,rfl,h⟩
 ·exact .inl h
 ·exact .inr ⟨g,off,rfl,fun i x hx=>hk.cell (h i x hx) (hX _ _ _ rfl g off rfl)⟩
theorem Sl.below {k:IntKind} {A B:World} {v:Value} {l:List Int} (h:Sl k A v l) (hb:Below A.heap.size A B):Sl k B v l:=h.keep (X:=fun _=>False) (.of_all hb) (fun _ _ _ _ _ _ _ h=>h)
def Drawn (w w':World):Prop:=∃n,w'=w.drewN n
theorem Drawn.below {w w':World} (h:Drawn w w'):Below w.heap.size w w':=by obtain⟨n,rfl⟩:=h;exact⟨rfl,rfl,rfl,Nat.le_refl _,fun _ _=>rfl⟩
theorem Drawn.more {w w':World} (h:Drawn w w') (n:Nat):Drawn w (w'.drewN n):=by obtain⟨m,rfl⟩:=h;exact⟨m+n,World.drewN_drewN ..⟩
theorem Drawn.refl (w:World):Drawn w w:=⟨0,rfl⟩
theorem Drawn.cell {w w':World} (h:Drawn w w') (p:Addr):w'.cell? p=w.cell? p:=by obtain⟨n,rfl⟩:=h;rfl
def SameOut (l1 l2:List Int) (w:World) (e:Ending) (w':World):Prop:=e = .returned (.bool (decide (l1=l2)))∧Drawn w w'
end Go.Proofs.YtgpbaeehajkebaaGreatDoor
namespace Go.Proofs.YtgpbaeehajkebaaGreatDoor
open Go Go.RowKit Go.Lib
def CharAt (w b0 b1 b2 b3:Nat):Prop :=
 (w=1∧b0<128)∨(w=2∧194≤b0∧b0<224∧128≤b1∧b1≤191) ∨
 (w=3∧224≤b0∧b0<240∧128≤b1∧b1≤191∧(b0=224→160≤b1)∧(b0=237→b1≤159)∧128≤b2∧b2≤191) ∨
 (w=4∧240≤b0∧b0<245∧128≤b1∧b1≤191∧(b0=240→144≤b1)∧(b0=244→b1≤143)∧128≤b2∧b2≤191∧128≤b3∧b3≤191)
theorem lead_1 (b0:Nat) (h:b0<128):leadI b0=(1,0,0):=by unfold leadI;rw[if_pos (by omega)]
theorem bgT_char (N b0 b1 b2 b3 w:Nat) (hw1:1≤w) (hw4:w≤4) (hN:1≤N) (c0:b0<256) :
 ((leadI b0).1=w∧bgT (leadI b0) N b1 b2 b3=w)↔(w≤N∧CharAt w b0 b1 b2 b3):=by
 unfold CharAt
 by_cases h0:b0<128
 ·rw[lead_1 b0 h0];simp only[bgT,inB_iff];rw[if_neg (by omega)];omega
 by_cases h1:(128≤b0∧b0<194)∨245≤b0
 ·rw[lead_bad b0 h1];simp only;omega
 by_cases h2:b0<224
 ·rw[lead_2 b0 (by omega)];simp only[bgT,inB_iff]
  split
  ·rw[if_neg (by omega)];omega
  ·omega
 by_cases h3:b0<240
 ·rw[lead_3 b0 (by omega)];simp only[bgT,inB_iff]
  have e1:(if b0=224 then 160 else 128)=(if b0=224 then 160 else 128:Nat):=rfl
  generalize hlo:(if b0=224 then 160 else 128:Nat)=lo
  generalize hhi:(if b0=237 then 159 else 191:Nat)=hi
  have hlo':(b0=224∧lo=160)∨(b0≠224∧lo=128):=by split at hlo <;> omega
  have hhi':(b0=237∧hi=159)∨(b0≠237∧hi=191):=by split at hhi <;> omega
  clear hlo hhi e1
  split
  ·split
   ·rw[if_neg (by omega)];omega
   ·omega
  ·omega
 ·rw[lead_4 b0 (by omega)];simp only[bgT,inB_iff]
  generalize hlo:(if b0=240 then 144 else 128:Nat)=lo
  generalize hhi:(if b0=244 then 143 else 191:Nat)=hi
  have hlo':(b0=240∧lo=144)∨(b0≠240∧lo=128):=by split at hlo <;> omega
  have hhi':(b0=244∧hi=143)∨(b0≠244∧hi=191):=by split at hhi <;> omega
  clear hlo hhi
  split
  ·split
   ·split <;> omega
   ·omega
  ·omega
theorem wide_iff (s:ByteArray) (i w:Nat) (hi:i<s.size) (hw1:1≤w) (hw4:w≤4) :
 wideI s i=w↔(i+w≤s.size∧CharAt w (B s i) (B s (i+1)) (B s (i+2)) (B s (i+3))):=by
 have hb:=bgT_char (s.size-i) (B s i) (B s (i+1)) (B s (i+2)) (B s (i+3)) w hw1 hw4 (by omega) (B_lt _ _)
 have e:(i+w≤s.size)↔(w≤s.size-i):=by omega
 rw[e,←hb]
 unfold wideI
 rw[begunI_eq]
 by_cases hz:(leadI (B s i)).1=0
 ·rw[if_pos hz];simp[hz];omega
 ·rw[if_neg hz]
  by_cases hq:bgT (leadI (B s i)) (s.size-i) (B s (i+1)) (B s (i+2)) (B s (i+3))=(leadI (B s i)).1
  ·simp[hq]
  ·simp only[bne_iff_ne,ne_eq,hq,not_false_eq_true,if_true]
   omega
theorem decode_wide (s:ByteArray) (i:Nat) (hi:i<s.size) :
 (wideI s i=0∧Utf8.decode s i=(65533,1))∨(∃w:Nat,1≤w∧w≤4∧i+w≤s.size∧wideI s i=w∧(Utf8.decode s i).2=w):=by
 rcases unit_at s i hi with h|⟨w,h1,h2,h3,h4,h5,_⟩
 ·exact .inl h
 ·exact .inr ⟨w,h1,h2,h3,h4,h5⟩
end Go.Proofs.YtgpbaeehajkebaaGreatDoor
namespace Go.Proofs.YtgpbaeehajkebaaGreatDoor
open Go Go.RowKit Go.Lib
def befK (s:ByteArray) (n:Nat):Nat→Nat→Int × Int
 | 0,_=>(65533,1)
 | f+1,k=>if k≤4∧k≤n then (if wideI s (n-k)=k then (((Utf8.decode s (n-k)).1:Int),(k:Int)) else befK s n f (k+1)) else (65533,1)
def befP (s:ByteArray) (a:Int):Int × Int:=if 1≤a∧a≤s.size then befK s a.toNat 5 1 else (65533,0)
end Go.Proofs.YtgpbaeehajkebaaGreatDoor
namespace Go.Proofs.YtgpbaeehajkebaaGreatDoor
open Go Go.RowKit Go.Kt
end Go.Proofs.YtgpbaeehajkebaaGreatDoor
namespace Go.Kt
open Go Go.RowKit
structure StoB where
 w:World
 H:Nat
 gp:Nat
 js:Nat
 P:Nat→Value→World→Prop
 Fin:World→Prop
variable {F:StoB} {D:Nat→Bool} {X Y W:World} {i:Nat} {v u:Value}
def StoB.S (F:StoB) (D:Nat→Bool) (X:World):Prop:=D F.js=false→Below F.H F.w X
def StoB.p (F:StoB) (i:Nat) (v:Value) (W:World):Prop:=(i≠F.js→∃W',Below F.H F.w W'∧F.P i v W'∧Keep (fun b=>b=F.gp) W' W)∧(i=F.js→F.Fin W)
structure StoB.Ok (F:StoB):Prop where
 H:F.H=F.w.heap.size
 g:F.gp<F.H
 P:∀i v A B,Below A.heap.size A B→F.P i v A→F.P i v B
theorem StoB.get (h:F.p i v X) (hO:F.Ok) (hX:F.S D X) (hD:D F.js=false) (hi:i≠F.js):F.P i v X:=by
 obtain⟨W',h1,h2,h3⟩:=h.1 hi
 have hb:=hX hD
 refine hO.P i v W' X ⟨h3.os,h3.tape,h3.output,h3.size,fun x hx=>?_⟩ h2
 by_cases e:x=F.gp
 ·subst e
  exact (hb.block F.gp hO.g).trans (h1.block F.gp hO.g).symm
 ·exact h3.same x hx e
theorem StoB.go (hO:F.Ok) (hX:F.S D X) (hD:D F.js=false) (hi:i≠F.js) (hb:Below X.heap.size X Y) (hv:F.P i v Y) :
 F.S (fun j=>D j||j==i) Y∧(∀j u,D j=true→F.p j u X→F.p j u Y)∧F.p i v Y:=by
 have h0:=hX hD
 have hs:F.H≤X.heap.size:=by rw[hO.H];exact h0.size
 have h1:Below F.H F.w Y:=h0.trans (hb.mono hs)
 refine⟨fun _=>h1,fun j u hj h=>⟨fun hne=>?_,fun e=>by rw[e,hD] at hj;cases hj⟩,fun _=>⟨Y,h1,hv,Keep.refl _ _⟩,fun e=>absurd e hi⟩
 obtain⟨W',a1,a2,a3⟩:=h.1 hne
 exact⟨W',a1,a2,a3.trans (Keep.of_all hb)⟩
theorem StoB.last (hD:D F.js=false) (hk:Keep (fun b=>b=F.gp) X Y) (hv:F.Fin Y) :
 F.S (fun j=>D j||j==F.js) Y∧(∀j u,D j=true→F.p j u X→F.p j u Y)∧F.p F.js v Y:=by
 refine⟨fun e=>by simp at e,fun j u hj h=>⟨fun hne=>?_,fun e=>by rw[e,hD] at hj;cases hj⟩,fun h=>absurd rfl h,fun _=>hv⟩
 obtain⟨W',a1,a2,a3⟩:=h.1 hne
 exact⟨W',a1,a2,a3.trans hk⟩
section
variable {P:Program} {ops:Array Oper} {Q:Exit→Act→World→Prop}
def reachB (ops:Array Oper):Nat→Nat→Nat→Bool
 | 0,_,_=>false
 | n+1,j,i=>awaits .any ops j i||(List.range ops.size).any fun k=>awaits .any ops j k&&reachB ops n k i
def ClosedD (ops:Array Oper) (D:Nat→Bool):Prop:=∀j i,D j=true→awaits .any ops j i=true→D i=true
theorem ClosedD.reach (h:ClosedD ops D):∀(n j i:Nat),reachB ops n j i=true→D j=true→D i=true
 | 0,_,_,hr,_=>by cases hr
 | n+1,j,i,hr,hj=>by
   unfold reachB at hr
   rw[Bool.or_eq_true] at hr
   rcases hr with hr|hr
   ·exact h j i hj hr
   ·obtain⟨k,_,hk⟩:=List.any_eq_true.1 hr
    rw[Bool.and_eq_true] at hk
    exact ClosedD.reach h n k i hk.2 (h j k hj hk.1)
def BStep (P:Program) (ops:Array Oper) (Q:Exit→Act→World→Prop) (F:StoB) (a0:Act) (i:Nat) (o:Oper):Prop :=
 ∀a X,Below F.H F.w X→Like ops a0 a→(∀j k,j≠F.js→waitsB .any o j=true→slotB ops j k=true→F.P j (a.tmps.getD k undef) X) →
  Region.wanted o (yielded ops a.tmps)=true∧o.wp P a X (fun a' w'=>∃v,a'=a.put o.dst v∧((i≠F.js∧Below X.heap.size X w'∧F.P i v w')∨(i=F.js∧Keep (fun b=>b=F.gp) X w'∧F.Fin w'))) Q
def BSteps (P:Program) (ops:Array Oper) (Q:Exit→Act→World→Prop) (F:StoB) (a0:Act):Nat→List Oper→Prop
 | _,[]=>True
 | i,o::r=>BStep P ops Q F a0 i o∧BSteps P ops Q F a0 (i+1) r
theorem BSteps.cons {F:StoB} {a0:Act} {i:Nat} {o:Oper} {r:List Oper} (h:BStep P ops Q F a0 i o) (hr:BSteps P ops Q F a0 (i+1) r):BSteps P ops Q F a0 i (o::r):=⟨h,hr⟩
theorem BSteps.nil {F:StoB} {a0:Act} {i:Nat}:BSteps P ops Q F a0 i []:=trivial
theorem BSteps.done {F:StoB} {a0:Act} (hO:F.Ok) (hr:∀i,i<ops.size→i≠F.js→reachB ops ops.size F.js i=true):∀(l:List Oper) (i:Nat),(∀j o,l[j]? = some o→ops[i+j]? = some o)→BSteps P ops Q F a0 i l →
 DSteps P .any ops Q (fun D X=>ClosedD ops D∧F.S D X) F.p a0 i l
 | [],_,_,_=>trivial
 | o::r,i,hl,hs=>by
   refine⟨?_,BSteps.done hO hr r (i+1) (fun j x hx=>by rw[show i+1+j=i+(j+1) by omega];exact hl (j+1) x (by simpa using hx)) hs.2⟩
   intro D a X hDi hDa hDw hS hL hd
   have hio:ops[i]? = some o:=by have:=hl 0 o rfl;simpa using this
   have hD:D F.js=false:=by
    by_cases e:i=F.js
    ·rw[←e];exact hDi
    ·cases h:D F.js with
     | false=>rfl
     | true =>
       have:=hS.1.reach _ _ _ (hr i (Array.getElem?_eq_some_iff.1 hio).1 e) h
       rw[hDi] at this;cases this
   obtain⟨h1,h2⟩:=hs.1 a X (hS.2 hD) hL (fun j k hj hw hk=>StoB.get (hd j k hw hk) hO hS.2 hD hj)
   refine⟨h1,Oper.wp_mono ?_ h2⟩
   rintro a' w' ⟨v,e,hv⟩
   have hcl:ClosedD ops (fun j=>D j||j==i):=fun j x hj hx=>by
    rw[Bool.or_eq_true] at hj
    rcases hj with hj|hj
    ·show (D x||x==i)=true
     rw[hS.1 j x hj hx];rfl
    ·have e2:j=i:=by simpa using hj
     subst e2
     unfold awaits at hx
     rw[hio] at hx
     show (D x||x==j)=true
     rw[hDw x hx];rfl
   rcases hv with ⟨hi,hb,hv⟩|⟨hi,hk,hv⟩
   ·obtain⟨g1,g2,g3⟩:=StoB.go hO hS.2 hD hi hb hv
    exact⟨v,e,⟨hcl,g1⟩,g2,g3⟩
   ·subst hi
    obtain⟨g1,g2,g3⟩:=StoB.last (v:=v) hD hk hv
    exact⟨v,e,⟨hcl,g1⟩,g2,g3⟩
theorem wp_region_stob {id:Nat} {a0:Act} {w0:World} (F:StoB) (hm:P.follows .mixedOrders=true) (hap:apartB ops a0.tmps.size=true) (hfw:forwardB .any ops=true)
 (hO:F.Ok) (hr:((List.range ops.size).all fun i=>i==F.js||reachB ops ops.size F.js i)=true) (hjs:F.js<ops.size) (h0:Below F.H F.w w0.drew) (hs:BSteps P ops Q F a0 0 ops.toList)
 (hd:∀a w,Like ops a0 a→F.Fin w→Q .normal a w):(Code.region id ops true).wp P Q a0 w0:=by
 refine wp_region_done (fun D X=>ClosedD ops D∧F.S D X) F.p hm hap hfw ⟨fun _ _ h=>(by cases h),fun _=>h0⟩
  (BSteps.done hO (fun i hi hne=>by
   have:=List.all_eq_true.1 hr i (List.mem_range.2 hi)
   rw[Bool.or_eq_true] at this
   rcases this with h|h
   ·exact absurd (by simpa using h) hne
   ·exact h) ops.toList 0 (fun j o h=>by simpa using h) hs) (fun D a w hAll hS hL hP hE=>?_)
 obtain⟨v,hv⟩:=hE F.js hjs
 exact hd a w hL (hv.2 rfl)
end
end Go.Kt
