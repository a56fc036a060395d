/- The document's answer for props: a line of class or kind: the walk. -/
import Derived.Test.YtgpbaeehajkebaaGreatDoorGv24
namespace Go.Proofs.YtgpbaeehajkebaaGreatDoor
open Go Go.RowKit Go.Kt Go.Kt.Rg Go.Maps

theorem kd_not {b:List UInt8} (h:∀k (hk:k<8),kdN[k]'hk≠b):kndP b=(12,0):=by
  unfold kndP
  have:kdN.findIdx? (fun x=>x==b)=none:=by
    rw[List.findIdx?_eq_none_iff]
    intro x hx
    obtain⟨k,hk,rfl⟩:=List.getElem_of_mem hx
    simpa using h k hk
  rw[this]
theorem kd_at {b:List UInt8} {k:Nat} (hk:k<8) (h0:∀j (hj:j<8),j<k→kdN[j]'hj≠b) (h:kdN[k]'hk=b):kndP b=(0,k):=by
  unfold kndP
  have:kdN.findIdx? (fun x=>x==b)=some k:=by
    rw[List.findIdx?_eq_some_iff_getElem]
    refine⟨hk,by simpa using h,fun j hj=>?_⟩
    simpa using h0 j (by omega) hj
  rw[this]
theorem rows_take (line:Nat) (S:RdS) {x a b:List UInt8} (V:List UInt8→Nat × Int) (hV:(x=wCls∧V=clsP)∨(x=wKnd∧V=kndZ)):(takeP line S [x,a,b]).1=(rowP V [a,b]).1 ∧
    (takeP line S [x,a,b]).2=if x=wCls then { S with cs:=S.cs++[(rowP V [a,b]).2] } else { S with ks:=S.ks++[(rowP V [a,b]).2] }:=by
  rcases hV with ⟨rfl,rfl⟩|⟨rfl,rfl⟩
  · exact⟨rfl,rfl⟩
  · exact⟨rfl,rfl⟩
theorem rowP_two (V:List UInt8→Nat × Int) (a b:List UInt8):rowP V [a,b]=if (spnP a).1≠0 then ((spnP a).1,0,0,0) else if (V b).1≠0 then ((V b).1,0,0,0) else (0,(spnP a).2.1,(spnP a).2.2,(V b).2):=by
  unfold rowP
  rw[if_neg (by simp)]
  rfl
theorem row_spn {V:List UInt8→Nat × Int} {a b:List UInt8} (h:(spnP a).1≠0):(rowP V [a,b]).1=(spnP a).1:=by rw[rowP_two,if_pos h]
theorem row_val {V:List UInt8→Nat × Int} {a b:List UInt8} (h:(spnP a).1=0) (hv:(V b).1≠0):(rowP V [a,b]).1=(V b).1:=by rw[rowP_two,if_neg (by simpa using h),if_pos hv]
theorem row_yes {V:List UInt8→Nat × Int} {a b:List UInt8} (h:(spnP a).1=0) (hv:(V b).1=0):rowP V [a,b]=(0,(spnP a).2.1,(spnP a).2.2,(V b).2):=by rw[rowP_two,if_neg (by simpa using h),if_neg (by simpa using hv)]

set_option maxRecDepth 100000 in
set_option maxHeartbeats 4000000 in
theorem yranged {B0 g:Nat} {ρ:Nat→Nat} {X:XdS} {S:RdS} {cv kv fv dv:Value} (w:World) (hP:PxW B0 ρ g X cv kv fv dv w) (hX:XRel X S) (x:List UInt8) (t:List (List UInt8)) (hx:x=wCls∨x=wKnd) (sv:Value) (hS:TxR w sv (x::t)) (hz:∀u∈x::t,u≠[]∧u.length≤1048000) (hK:KTabX w) (hm:X.cs.length≤65536∧X.ks.length≤65536) (line:Nat) {N:Nat} (hN:X.fl.length≤N∧X.dl.length≤N) :
    Calls Tryz.prog 37 #[.pointer (some ⟨g,0,none⟩),sv] w fun e w'=>PxOut B0 g N (takeP line S (x::t)).1 (takeP line S (x::t)).2 w e w':=by
  have HP:=Lib.hid (And.intro hP (And.intro hX hm))
  have HN:=Lib.hid hN
  clear hN
  obtain⟨ao,cp,rfl,hor⟩:=hS
  obtain⟨gs,rfl,hc⟩:∃g,ao=some ⟨g,0,none⟩∧∀(i:Nat) (y:List UInt8),(x::t)[i]? = some y→w.cell? ⟨g,i,none⟩=some (.string ⟨y.toArray⟩):=by
    rcases hor with h|h
    · cases h
    · exact h
  have h12:x≠wCls∧x≠wKnd∧x≠wFld∧x≠wDcp↔False:=by
    rcases hx with rfl|rfl <;> simp
  match t with
  | [] =>
    have HT:Hid ((takeP line S [x]).1=2):=Lib.hid (by rw[takeP,if_neg (fun h=>h12.1 h),if_pos (by simp)])
    clear hc hor hz hK h12 hP hX hm hx
    go_enter Tryz.func37,Tryz.ntmps37
    go_wp2
    go_ret
    rw[HT.out]
    exact HP.out.1.no HN.out (by decide) _ (Below.refl _ _)
  | [a] =>
    have HT:Hid ((takeP line S [x,a]).1=2):=Lib.hid (by rw[takeP,if_neg (fun h=>h12.1 h),if_pos (by simp)])
    clear hc hor hz hK h12 hP hX hm hx
    go_enter Tryz.func37,Tryz.ntmps37
    go_wp2
    go_ret
    rw[HT.out]
    exact HP.out.1.no HN.out (by decide) _ (Below.refl _ _)
  | a::b::c::u =>
    have HT:Hid ((takeP line S (x::a::b::c::u)).1=3):=Lib.hid (by
      have hr:∀V,rowP V (a::b::c::u)=(3,0,0,0):=fun V=>by unfold rowP;rw[if_pos (by simp)]
      rw[takeP,if_neg (fun h=>h12.1 h),if_neg (by simp)]
      rcases hx with rfl|rfl
      · rw[if_pos rfl,hr]
      · rw[if_neg (by decide),if_pos rfl,hr])
    obtain⟨n,hn⟩:∃n,(x::a::b::c::u).length=n:=⟨_,rfl⟩
    rw[hn]
    have hn4:4≤n:=by rw[←hn];simp
    have e1:¬(n:Int)<3:=by omega
    have e2:(3:Int)<n:=by omega
    clear hc hor hz hK h12 hP hX hm hx hn hn4
    go_enter Tryz.func37,Tryz.ntmps37
    go_wp2
    go_ret
    rw[HT.out]
    exact HP.out.1.no HN.out (by decide) _ (Below.refl _ _)
  | [a,b] =>
    have hza:=hz a (by simp)
    have hzb:=hz b (by simp)
    have c0:=hc 0 x rfl
    have c1:=hc 1 a rfl
    have c2:=hc 2 b rfl
    have CE:=Lib.hid (yends ⟨a.toArray⟩ w (by rw[bsize];exact hza.2))
    obtain⟨sb,hsb⟩:∃sb:ByteArray,(⟨b.toArray⟩:ByteArray)=sb:=⟨_,rfl⟩
    have hsl:sb.data.toList=b:=by rw[←hsb]
    rw[hsb] at c2
    have hsz:sb.size=b.length:=by rw[←hsl];exact Lib.size_eq sb
    obtain⟨⟨no,lo,hi⟩,hsp⟩:∃z,spnP a=z:=⟨_,rfl⟩
    have hda:(⟨a.toArray⟩:ByteArray).data.toList=a:=by simp
    rw[hda,hsp] at CE
    have HSP:=Lib.hid hsp
    have HK:=Lib.hid hK
    have HC:=Lib.hid (fun (W:World) (h:Below w.heap.size w W)=>And.intro ((h.cell (lt_of_cell c0)).trans c0) ((h.cell (lt_of_cell c2)).trans c2))
    have HB:=Lib.hid (And.intro hsl (And.intro hsz hzb))
    obtain⟨sa,hsa⟩:∃sa:ByteArray,(⟨a.toArray⟩:ByteArray)=sa:=⟨_,rfl⟩
    rw[hsa] at c1 CE
    clear hc hor hz hK hP hm hsp hda hza hsa c2 c0 hsl hsb
    by_cases h0:no=0
    · subst h0
      rcases hx with rfl|rfl
      · -- class
        have HT:=Lib.hid (rows_take line S (a:=a) (b:=b) clsP (.inl ⟨rfl,rfl⟩))
        clear h12 hX
        go_enter Tryz.func37,Tryz.ntmps37
        go_wp2_with fail
        refine CE.out.mono ?_
        rintro e w1 ⟨rfl,hb1⟩
        obtain⟨d0,d2⟩:=HC.out w1 hb1
        have HB1:=Lib.hid hb1
        have CN:=Lib.hid (ynumber sb 10 1 18 w1 (by omega) (.inr ⟨rfl,rfl,rfl⟩))
        clear hb1 c1
        go_wp2_with fail
        refine CN.out.mono ?_
        rintro e w2 ⟨rfl,hb2⟩
        have HB2:=Lib.hid (HB1.out.trans (hb2.mono HB1.out.size))
        obtain⟨d0,d2⟩:=HC.out w2 HB2.out
        clear hb2
        obtain⟨hsl,hsz,hbn,_⟩:=HB.out
        have hpos:0<sb.size:=by rw[hsz];exact List.length_pos_iff.2 hbn
        have hHD:b.head? = some (yAt sb 0):=by
          have h1:=yAt_drop sb 0 hpos
          rw[List.drop_zero,hsl] at h1
          rw[h1];rfl
        have HNG:=Lib.hid (numG10 b hbn)
        have HDC:=Lib.hid (docC_cls hbn)
        have hl11:∀w',Below w.heap.size w w'→(docC b).1=11→PxOut B0 g N (takeP line S [wCls,a,b]).1 (takeP line S [wCls,a,b]).2 w (.returned (.int .i64 11)) w':=fun w' hb h=>by
          have e1:(takeP line S [wCls,a,b]).1=11:=by rw[HT.out.1,row_val (by rw[HSP.out]) (by rw[HDC.out,h];decide),HDC.out,h]
          rw[e1]
          exact HP.out.1.no HN.out (by decide) _ hb
        have HL11:=Lib.hid hl11
        have hl1:∀w',Below w.heap.size w w'→(docC b).1=1→PxOut B0 g N (takeP line S [wCls,a,b]).1 (takeP line S [wCls,a,b]).2 w (.returned (.int .i64 1)) w':=fun w' hb h=>by
          have e1:(takeP line S [wCls,a,b]).1=1:=by rw[HT.out.1,row_val (by rw[HSP.out]) (by rw[HDC.out,h];decide),HDC.out,h]
          rw[e1]
          exact HP.out.1.no HN.out (by decide) _ hb
        have HL1:=Lib.hid hl1
        clear hl11 hl1
        have HI0:∀W,(Instr.index 9 (.string sb) (.int .i64 0)).run Tryz.prog W = .ok (.int .u8 ((yAt sb 0).toNat:Int)) W:=fun W=>yAt_run sb 0 hpos W
        obtain⟨c0,hc0⟩:∃c:Int,((yAt sb 0).toNat:Int)=c:=⟨_,rfl⟩
        rw[hc0] at HI0
        have h48:b.head? = some 48↔c0=48:=by
          rw[hHD]
          constructor
          · intro h
            rw[←hc0,Option.some.inj h];rfl
          · intro h
            rw[byt_is (k:=48) (by decide) (hc0.trans h)];rfl
        by_cases h18:18<b.length
        · have g18:(18:Int)<sb.size:=by omega
          have hn:numG 10 1 18 b = -1:=by rw[HNG.out,if_neg (by omega)]
          have HG:=Lib.hid (And.intro hsl (And.intro hsz (And.intro h18 h48)))
          rw[show sb.data.toList=b from hsl,hn]
          clear hsl hsz hbn hpos hHD h48 h18 hc0 hn
          go_wp2_with fail
          go_loopw [10] (fun v wr=>∃i:Nat,v = .int .i64 (i:Nat)∧i≤sb.size∧Hid (dgA b=dgA (b.drop i))∧wr=w2) (fun v _=>sb.size-(RowKit.intOf v).toNat)
          case atStart=>exact⟨0,rfl,Nat.zero_le _,Lib.hid (by rw[List.drop_zero]),rfl⟩
          case round =>
            obtain⟨i,rfl,hi,hd,rfl⟩:=hrel
            by_cases hlt:i<sb.size
            · have e1:(i:Int)<sb.size:=by omega
              have k1:IntKind.i64.wrap ((i:Int)+1)=((i+1:Nat):Int):=by rw[IntWalk.i64_in _ (by have:=HB.out.2.1;have:=HB.out.2.2.2;omega)];omega
              have HI:=fun W=>yAt_run sb i hlt W
              have hyd:=yAt_drop sb i hlt
              rw[HG.out.1] at hyd
              have hd2:=hd.out
              rw[hyd] at hd2
              unfold dgA at hd2
              rw[List.all_cons] at hd2
              obtain⟨c,hc⟩:∃c:Int,((yAt sb i).toNat:Int)=c:=⟨_,rfl⟩
              rw[hc] at HI
              by_cases hdg:48≤c∧c≤57
              · have q1:¬c<48:=by omega
                have q2:¬57<c:=by omega
                have hb9:dgB (yAt sb i)=true:=dgB_iff.2 (by omega)
                rw[hb9,Bool.true_and] at hd2
                have HD2:Hid (dgA b=dgA (b.drop (i+1))):=Lib.hid hd2
                clear hyd hd2 hd hdg hb9 hc
                go_wp2
                go_roundw
                case rel=>exact⟨i+1,by go_num,by omega,HD2,by trivial⟩
                case measure=>simp[RowKit.intOf];omega
              · have hb9:dgB (yAt sb i)=false:=by
                  cases h9:dgB (yAt sb i) with
                  | false=>rfl
                  | true=>have:=dgB_iff.1 h9;omega
                rw[hb9,Bool.false_and] at hd2
                have HD2:Hid ((docC b).1=11):=Lib.hid (by unfold docC;rw[if_pos (.inl hd2)])
                clear hyd hd2 hd hb9 hc
                by_cases q1:c<48
                · clear hdg
                  go_wp2
                  go_ret
                  exact HL11.out _ HB2.out HD2.out
                · have q2:57<c:=by omega
                  clear hdg
                  go_wp2
                  go_ret
                  exact HL11.out _ HB2.out HD2.out
            · have e1:¬(i:Int)<sb.size:=by omega
              have hdt:dgA b=true:=by
                rw[hd.out,List.drop_eq_nil_of_le (by have:=HG.out.2.1;omega)];rfl
              have g1:(1:Int)<sb.size:=by have:=HG.out.2;omega
              by_cases h9:c0=48
              · subst h9
                have HD2:Hid ((docC b).1=11):=Lib.hid (by unfold docC;rw[if_pos (.inr ⟨by have:=HG.out.2.2.1;omega,HG.out.2.2.2.2 rfl⟩)])
                clear hd hdt hlt
                go_wp2
                go_ret
                exact HL11.out _ HB2.out HD2.out
              · have r9:(c0==48)=false:=beq_eq_false_iff_ne.2 h9
                have HD2:Hid ((docC b).1=1):=Lib.hid (by
                  unfold docC
                  rw[if_neg (fun h=>by rcases h with h|h;rw[hdt] at h;cases h;exact h9 (HG.out.2.2.2.1 h.2)),if_pos (docC_long hdt HG.out.2.2.1 (fun h=>h9 (HG.out.2.2.2.1 h)))])
                clear hd hdt hlt h9
                go_wp2
                go_ret
                exact HL1.out _ HB2.out HD2.out
        · have g18:¬(18:Int)<sb.size:=by omega
          rw[show sb.data.toList=b from hsl]
          cases hdg:dgA b with
          | false =>
            have hn:numG 10 1 18 b = -1:=by rw[HNG.out,hdg];simp
            rw[hn]
            have HD2:Hid ((docC b).1=11):=Lib.hid (by unfold docC;rw[if_pos (.inl hdg)])
            clear hsl hsz hbn hpos hHD h48 h18 hc0 hn hdg
            go_wp2
            go_ret
            exact HL11.out _ HB2.out HD2.out
          | true =>
            obtain⟨n,hnn⟩:∃n,dcV 0 b=n:=⟨_,rfl⟩
            have hn:numG 10 1 18 b=(n:Int):=by rw[HNG.out,if_pos ⟨by omega,hdg⟩,hnn]
            rw[hn]
            have q0:¬(n:Int)<0:=by omega
            have HV:Hid (dcV 0 b=n∧dgA b=true):=Lib.hid ⟨hnn,hdg⟩
            by_cases h1:1<b.length
            · have g1:(1:Int)<sb.size:=by omega
              by_cases h9:c0=48
              · have HD2:Hid ((docC b).1=11):=Lib.hid (by unfold docC;rw[if_pos (.inr ⟨h1,h48.2 h9⟩)])
                subst h9
                clear hsl hsz hbn hpos hHD h48 h18 hc0 hn hdg hnn h1
                go_wp2
                go_ret
                exact HL11.out _ HB2.out HD2.out
              · have r9:(c0==48)=false:=beq_eq_false_iff_ne.2 h9
                have HD2:Hid (docC b=if 254<n then (1,0) else (0,((n:Nat):Int))):=Lib.hid (by
                  unfold docC
                  rw[if_neg (fun h=>by rcases h with h|h;rw[hdg] at h;cases h;exact h9 (h48.1 h.2)),hnn])
                clear hsl hsz hbn hpos hHD h48 h18 hc0 hn hdg hnn h1 h9
                by_cases h254:254<n
                · have g254:(254:Int)<n:=by omega
                  have HD3:Hid ((docC b).1=1):=Lib.hid (by rw[HD2.out,if_pos h254])
                  clear h254
                  go_wp2
                  go_ret
                  exact HL1.out _ HB2.out HD3.out
                · have g254:¬(254:Int)<n:=by omega
                  have HD3:Hid (clsP b=(0,((n:Nat):Int))):=Lib.hid (by rw[HDC.out,HD2.out,if_neg h254])
                  have hP2:=HP.out.1.below HB2.out
                  obtain⟨v',w3,hrun,f0,f1,⟨ao9,n9,cp9,rfl⟩,hb9,hPX⟩:=hP2.appc HP.out.2.1 HP.out.2.2.1 (lo,hi,(n:Nat))
                  obtain⟨ao8,cp8,hcv⟩:=own_slc hP2.c
                  have f2:w2.cell? ⟨g,0,none⟩=some cv:=by rw[Lib.cell_of_heap hP2.cell];rfl
                  have HRun:=Lib.hid hrun
                  have H9:=Lib.hid (And.intro hb9 hPX)
                  have HE:Hid ((takeP line S [wCls,a,b]).1=0∧(takeP line S [wCls,a,b]).2={ S with cs:=S.cs++[(lo,hi,((n:Nat):Int))] }):=Lib.hid (by
                    have hy:=row_yes (V:=clsP) (a:=a) (b:=b) (by rw[HSP.out]) (by rw[HD3.out])
                    rw[HSP.out,HD3.out] at hy
                    rw[HT.out.1,HT.out.2,hy]
                    exact⟨rfl,by simp⟩)
                  rw[hcv] at f0 f2 HRun
                  clear hrun hb9 hPX hP2 h254 hcv
                  go_wp2_with (first|(at_builtin;refine wpList_append_eq rfl rfl rfl rfl HRun.out ?_;clear HRun)|fail)
                  go_ret
                  rw[HE.out.1,HE.out.2]
                  obtain⟨h1,ρ',X',cv',kv',fv',dv',h2,h3,h4,h5⟩:=H9.out
                  exact⟨rfl,(HB2.out.mono HP.out.1.hB).trans h1,ρ',X',cv',kv',fv',dv',h2,fun _=>h3,by rw[h4,h5];exact HN.out⟩
            · have g1:¬(1:Int)<sb.size:=by omega
              have HD2:Hid (docC b=if 254<n then (1,0) else (0,((n:Nat):Int))):=Lib.hid (by
                unfold docC
                rw[if_neg (fun h=>by rcases h with h|h;rw[hdg] at h;cases h;exact h1 h.1),hnn])
              clear hsl hsz hbn hpos hHD h48 h18 hc0 hn hdg hnn h1 HI0
              by_cases h254:254<n
              · have g254:(254:Int)<n:=by omega
                have HD3:Hid ((docC b).1=1):=Lib.hid (by rw[HD2.out,if_pos h254])
                clear h254
                go_wp2
                go_ret
                exact HL1.out _ HB2.out HD3.out
              · have g254:¬(254:Int)<n:=by omega
                have HD3:Hid (clsP b=(0,((n:Nat):Int))):=Lib.hid (by rw[HDC.out,HD2.out,if_neg h254])
                have hP2:=HP.out.1.below HB2.out
                obtain⟨v',w3,hrun,f0,f1,⟨ao9,n9,cp9,rfl⟩,hb9,hPX⟩:=hP2.appc HP.out.2.1 HP.out.2.2.1 (lo,hi,(n:Nat))
                obtain⟨ao8,cp8,hcv⟩:=own_slc hP2.c
                have f2:w2.cell? ⟨g,0,none⟩=some cv:=by rw[Lib.cell_of_heap hP2.cell];rfl
                have HRun:=Lib.hid hrun
                have H9:=Lib.hid (And.intro hb9 hPX)
                have HE:Hid ((takeP line S [wCls,a,b]).1=0∧(takeP line S [wCls,a,b]).2={ S with cs:=S.cs++[(lo,hi,((n:Nat):Int))] }):=Lib.hid (by
                  have hy:=row_yes (V:=clsP) (a:=a) (b:=b) (by rw[HSP.out]) (by rw[HD3.out])
                  rw[HSP.out,HD3.out] at hy
                  rw[HT.out.1,HT.out.2,hy]
                  exact⟨rfl,by simp⟩)
                rw[hcv] at f0 f2 HRun
                clear hrun hb9 hPX hP2 h254 hcv
                go_wp2_with (first|(at_builtin;refine wpList_append_eq rfl rfl rfl rfl HRun.out ?_;clear HRun)|fail)
                go_ret
                rw[HE.out.1,HE.out.2]
                obtain⟨h1,ρ',X',cv',kv',fv',dv',h2,h3,h4,h5⟩:=H9.out
                exact⟨rfl,(HB2.out.mono HP.out.1.hB).trans h1,ρ',X',cv',kv',fv',dv',h2,fun _=>h3,by rw[h4,h5];exact HN.out⟩
      · -- kind
        have HT:=Lib.hid (rows_take line S (a:=a) (b:=b) kndZ (.inr ⟨rfl,rfl⟩))
        clear h12 hX
        go_enter Tryz.func37,Tryz.ntmps37
        go_wp2_with fail
        refine CE.out.mono ?_
        rintro e w1 ⟨rfl,hb1⟩
        obtain⟨d0,d2⟩:=HC.out w1 hb1
        have HB1:=Lib.hid hb1
        clear hb1 c1
        go_wp2_with fail
        go_loopw [8] (fun v wr=>∃k:Nat,v = .int .i64 (k:Nat)∧k≤8∧Hid (∀j (hj:j<8),j<k→kdN[j]'hj≠b)∧Below w1.heap.size w1 wr) (fun v _=>8-(RowKit.intOf v).toNat)
        case atStart=>exact⟨0,rfl,Nat.zero_le _,Lib.hid (fun j _ h=>absurd h (by omega)),Below.refl _ _⟩
        case round =>
          obtain⟨k,rfl,hk,hd,hbr⟩:=hrel
          by_cases hlt:k<8
          · have e1:(k:Int)<8:=by omega
            have e0:(0:Int)≤(k:Int):=by omega
            have k1:IntKind.i64.wrap ((k:Int)+1)=((k+1:Nat):Int):=by rw[IntWalk.i64_in _ (by omega)];omega
            have HBR:=Lib.hid (HB1.out.trans (hbr.mono HB1.out.size))
            have ck:=(HK.out.below HBR.out) k hlt
            obtain⟨D0,D2⟩:=HC.out wr HBR.out
            obtain⟨sk,hsk⟩:∃sk:ByteArray,(⟨(kdN[k]'hlt).toArray⟩:ByteArray)=sk:=⟨_,rfl⟩
            have hskl:sk.toList=kdN[k]'hlt:=by rw[ByteArray.toList_eq,←hsk]
            rw[hsk] at ck
            have hsbl:sb.toList=b:=by rw[ByteArray.toList_eq];exact HB.out.1
            have HBW:=Lib.hid hbr
            by_cases hq:kdN[k]'hlt=b
            · have b1:(sb.toList==sk.toList)=true:=by rw[hskl,hsbl,hq];simp
              have HD3:Hid (kndZ b=(0,((k:Nat):Int))):=Lib.hid (by unfold kndZ;rw[kd_at hlt hd.out hq])
              have HE:Hid ((takeP line S [wKnd,a,b]).1=0∧(takeP line S [wKnd,a,b]).2={ S with ks:=S.ks++[(lo,hi,((k:Nat):Int))] }):=Lib.hid (by
                have hy:=row_yes (V:=kndZ) (a:=a) (b:=b) (by rw[HSP.out]) (by rw[HD3.out])
                rw[HSP.out,HD3.out] at hy
                rw[HT.out.1,HT.out.2,hy]
                exact⟨rfl,by rw[if_neg (by decide)]⟩)
              clear hd hbr hsk hskl hsbl hq hlt
              go_wp2_with fail
              go_quiet (fail)
              have hbq:Below w.heap.size w (wr.drewN nq):=below_drewN HBR.out nq
              have hP2:=HP.out.1.below hbq
              obtain⟨v',w3,hrun,f0,f1,⟨ao9,n9,cp9,rfl⟩,hb9,hPX⟩:=hP2.appk HP.out.2.1 HP.out.2.2.2 (lo,hi,(k:Nat))
              obtain⟨ao8,cp8,hkv⟩:=own_slc hP2.k
              have f2:(wr.drewN nq).cell? ⟨g,1,none⟩=some kv:=by rw[Lib.cell_of_heap hP2.cell];rfl
              have HRun:=Lib.hid hrun
              have H9:=Lib.hid (And.intro ((hbq.mono HP.out.1.hB).trans hb9) hPX)
              rw[hkv] at f0 f2 HRun
              clear hrun hb9 hPX hP2 hkv hbq
              go_wp2_with (first|(at_builtin;refine wpList_append_eq rfl rfl rfl rfl HRun.out ?_;clear HRun)|fail)
              go_ret
              rw[HE.out.1,HE.out.2]
              obtain⟨h1,ρ',X',cv',kv',fv',dv',h2,h3,h4,h5⟩:=H9.out
              exact⟨rfl,h1,ρ',X',cv',kv',fv',dv',h2,fun _=>h3,by rw[h4,h5];exact HN.out⟩
            · have b1:(sb.toList==sk.toList)=false:=by rw[hskl,hsbl];exact beq_eq_false_iff_ne.2 (fun e=>hq e.symm)
              have HD2:Hid (∀j (hj:j<8),j<k+1→kdN[j]'hj≠b):=Lib.hid (fun j hj h=>by
                rcases Nat.lt_or_ge j k with h3|h3
                · exact hd.out j hj h3
                · obtain rfl:j=k:=by omega
                  exact hq)
              clear hd hbr hsk hskl hsbl hq hlt
              go_wp2_with fail
              go_quiet (fail)
              go_wp2
              go_roundw
              case rel=>exact⟨k+1,by go_num,by omega,HD2,below_drewN HBW.out _⟩
              case measure=>simp[RowKit.intOf];omega
          · have e1:¬(k:Int)<8:=by omega
            have HBR:=Lib.hid (HB1.out.trans (hbr.mono HB1.out.size))
            have HE:Hid ((takeP line S [wKnd,a,b]).1=12):=Lib.hid (by
              have hq:=kd_not (b:=b) (fun j hj=>hd.out j hj (by omega))
              have hz:(kndZ b).1=12:=by unfold kndZ;rw[hq]
              rw[HT.out.1,row_val (by rw[HSP.out]) (by rw[hz];decide),hz])
            clear hd hbr hlt
            go_wp2
            go_ret
            rw[HE.out]
            exact HP.out.1.no HN.out (by decide) _ HBR.out
    · have h0':((no:Int)!=0)=true:=by simp;omega
      have HT:Hid ((takeP line S [x,a,b]).1=no):=Lib.hid (by
        rcases hx with rfl|rfl
        · rw[(rows_take line S clsP (.inl ⟨rfl,rfl⟩)).1,row_spn (by rw[HSP.out];exact h0),HSP.out]
        · rw[(rows_take line S kndZ (.inr ⟨rfl,rfl⟩)).1,row_spn (by rw[HSP.out];exact h0),HSP.out])
      have H0:=Lib.hid h0
      clear h12 hX hx h0
      go_enter Tryz.func37,Tryz.ntmps37
      go_wp2_with fail
      refine CE.out.mono ?_
      rintro e w1 ⟨rfl,hb1⟩
      have HB1:=Lib.hid hb1
      clear hb1
      go_wp2
      go_ret
      rw[HT.out]
      exact HP.out.1.no HN.out H0.out _ HB1.out
end Go.Proofs.YtgpbaeehajkebaaGreatDoor
