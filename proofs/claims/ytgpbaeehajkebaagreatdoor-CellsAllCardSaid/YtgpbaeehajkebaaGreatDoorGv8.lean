/- Parts of the proof of what the last text says. -/
import Derived.Test.YtgpbaeehajkebaaGreatDoorGv7
import Derived.Laws.Rows
namespace Go.Proofs.YtgpbaeehajkebaaGreatDoor
open Go Go.RowKit Go.Kt Go.Kt.Rg

abbrev digs:List UInt8:=[48,49,50,51,52,53,54,55,56,57]
def clsP (l:List UInt8):Nat × Int :=
  if Lib.trimS l digs≠[]∨(l≠[48]∧l.head? = some 48) then (11,0) else
    match Lib.atoiAll l with
    | .ok v=>if 254<v then (1,0) else (0,v)
    | _=>(1,0)

set_option maxRecDepth 100000 in
set_option maxHeartbeats 2000000 in
theorem pclass (s:ByteArray) (w:World) (hs:s.size≤140737488351232) (hne:s.data.toList≠[]) (hV:PVar w) :
    Calls Tryz.prog 90 #[.string s] w fun e w'=>e = .returned (.tuple #[.int .i64 (clsP s.data.toList).2,.int .i64 (clsP s.data.toList).1])∧Below w.heap.size w w':=by
  have CT:=Lib.hid (Tryz.strings_Trim_laid s ⟨#[48,49,50,51,52,53,54,55,56,57]⟩ w (by omega) (by decide) (ascii_of_all (by decide)))
  obtain⟨l,hl⟩:∃l,s.data.toList=l:=⟨_,rfl⟩
  have hln:l.length=s.size:=by rw[←hl];exact (Lib.size_eq s).symm
  have hl2:s.toList=l:=by rw[ByteArray.toList_eq];exact hl
  rw[hl] at CT hne ⊢
  have hsz0:0<s.size:=by
    rcases Nat.eq_zero_or_pos s.size with h|h
    · exact absurd (List.eq_nil_of_length_eq_zero (by omega)) hne
    · exact h
  have hh0:l.head? = some (s[0]'hsz0):=by
    rw[←hl]
    cases hd:s.data.toList with
    | nil=>rw[hl] at hd;exact absurd hd hne
    | cons c r =>
      have:s[0]'hsz0=(s.data.toList)[0]'(by rw[hd];simp):=by simp[ByteArray.getElem_eq_getElem_data]
      rw[this]
      simp[hd]
  obtain⟨T,hT⟩:∃T,Lib.trimS l digs=T:=⟨_,rfl⟩
  replace CT:Hid (Calls Tryz.prog 120 #[.string s,.string ⟨#[48,49,50,51,52,53,54,55,56,57]⟩] w fun e w'=>e = .returned (.string ⟨T.toArray⟩)∧Below w.heap.size w w'):=by rw[←hT];exact CT
  have HV:=Lib.hid hV
  clear hV
  by_cases hT0:T=[]
  · have e0:T.isEmpty=true:=by rw[hT0];rfl
    by_cases h48:l=[48]
    · have b48:(s.toList==[48])=true:=by rw[hl2,h48];rfl
      have p48:s.toList=[48]:=by rw[hl2,h48]
      have HC:Hid (¬(Lib.trimS l digs≠[]∨(l≠[48]∧l.head? = some 48))):=Lib.hid (fun h=>by
        rcases h with h|h
        · exact h (hT.trans hT0)
        · exact h.1 h48)
      clear hh0 hT h48 hne hl2
      cases ha:Lib.atoiAll l with
      | ok v =>
        have C:=Lib.hid (fun W=>Tryz.strconv_Atoi_ok s (by omega) v (by rw[hl];exact ha) W)
        have HX:Hid (clsP l=if 254<v then (1,0) else (0,v)):=Lib.hid (by unfold clsP;rw[if_neg HC.out,ha])
        clear ha
        by_cases hv:254<v
        · have HX2:=Lib.hid (HX.out.trans (if_pos hv))
          go_enter Tryz.func90,Tryz.ntmps90
          go_wp2_with fail
          refine CT.out.mono ?_
          rintro e w1 ⟨rfl,hb⟩
          have HB:=Lib.hid hb
          clear hb CT
          go_wp2_with (go_at_call 121;refine (C.out _).mono ?_;rintro e w2 ⟨rfl,hb2⟩)
          go_ret2
          rw[HX2.out]
          refine⟨rfl,?_⟩
          rcases hb2 with rfl|⟨t,rfl⟩
          · exact HB.out
          · exact HB.out.trans ((Lib.bytesWorld_below _ _ _).mono HB.out.size)
        · have hv2:v≤254:=by omega
          have HX2:=Lib.hid (HX.out.trans (if_neg hv))
          go_enter Tryz.func90,Tryz.ntmps90
          go_wp2_with fail
          refine CT.out.mono ?_
          rintro e w1 ⟨rfl,hb⟩
          have HB:=Lib.hid hb
          clear hb CT
          go_wp2_with (go_at_call 121;refine (C.out _).mono ?_;rintro e w2 ⟨rfl,hb2⟩)
          go_ret2
          rw[HX2.out]
          refine⟨rfl,?_⟩
          rcases hb2 with rfl|⟨t,rfl⟩
          · exact HB.out
          · exact HB.out.trans ((Lib.bytesWorld_below _ _ _).mono HB.out.size)
      | range =>
        have C:=Lib.hid (fun W ev h1 h2=>Tryz.strconv_Atoi_range s (by omega) (by rw[hl];exact ha) ev W h1 h2)
        have HX:Hid (clsP l=(1,0)):=Lib.hid (by unfold clsP;rw[if_neg HC.out,ha])
        clear ha
        go_enter Tryz.func90,Tryz.ntmps90
        go_wp2_with fail
        refine CT.out.mono ?_
        rintro e w1 ⟨rfl,hb⟩
        have HB:=Lib.hid hb
        clear hb CT
        obtain⟨⟨t1,p1,v1⟩,t2,p2,v2⟩:=HV.out.below HB.out
        have C2:=Lib.hid (C.out w1 _ v2 (.inr ⟨_,_,rfl⟩))
        clear v1 v2 C
        go_wp2_with (go_at_call 121;refine C2.out.mono ?_;rintro e w2 ⟨N,rfl,_,_,hb2⟩)
        go_ret2
        rw[HX.out]
        exact⟨rfl,HB.out.trans (hb2.mono HB.out.size)⟩
      | _ =>
        have C:=Lib.hid (fun W ev h1 h2=>Tryz.strconv_Atoi_syntax s (by omega) (by rw[hl];exact ha) ev W h1 h2)
        have HX:Hid (clsP l=(1,0)):=Lib.hid (by unfold clsP;rw[if_neg HC.out,ha])
        clear ha
        go_enter Tryz.func90,Tryz.ntmps90
        go_wp2_with fail
        refine CT.out.mono ?_
        rintro e w1 ⟨rfl,hb⟩
        have HB:=Lib.hid hb
        clear hb CT
        obtain⟨⟨t1,p1,v1⟩,t2,p2,v2⟩:=HV.out.below HB.out
        have C2:=Lib.hid (C.out w1 _ v1 (.inr ⟨_,_,rfl⟩))
        clear v1 v2 C
        go_wp2_with (go_at_call 121;refine C2.out.mono ?_;rintro e w2 ⟨N,rfl,_,_,hb2⟩)
        go_ret2
        rw[HX.out]
        exact⟨rfl,HB.out.trans (hb2.mono HB.out.size)⟩
    · have b48:(s.toList==[48])=false:=by rw[hl2];exact beq_eq_false_iff_ne.2 h48
      have p48:¬s.toList=[48]:=by rw[hl2];exact h48
      by_cases hz:(s[0]'hsz0)=48
      · have z48:(((s[0]'hsz0).toNat:Int)==48)=true:=by rw[hz];rfl
        have HX:Hid (clsP l=(11,0)):=Lib.hid (by unfold clsP;rw[if_pos (.inr ⟨h48,by rw[hh0,hz]⟩)])
        clear hh0 hT h48 hne hl2 hz
        go_enter Tryz.func90,Tryz.ntmps90
        go_wp2_with fail
        refine CT.out.mono ?_
        rintro e w1 ⟨rfl,hb⟩
        have HB:=Lib.hid hb
        clear hb CT
        go_wp2
        go_ret2
        rw[HX.out]
        exact⟨rfl,HB.out⟩
      · have z48:(((s[0]'hsz0).toNat:Int)==48)=false:=beq_eq_false_iff_ne.2 (fun e=>hz (UInt8.toNat_inj.1 (by show _=48;omega)))
        have HC:Hid (¬(Lib.trimS l digs≠[]∨(l≠[48]∧l.head? = some 48))):=Lib.hid (fun h=>by
          rcases h with h|h
          · exact h (hT.trans hT0)
          · rw[hh0] at h;exact hz (Option.some.inj h.2))
        clear hh0 hT h48 hne hl2 hz
        cases ha:Lib.atoiAll l with
        | ok v =>
          have C:=Lib.hid (fun W=>Tryz.strconv_Atoi_ok s (by omega) v (by rw[hl];exact ha) W)
          have HX:Hid (clsP l=if 254<v then (1,0) else (0,v)):=Lib.hid (by unfold clsP;rw[if_neg HC.out,ha])
          clear ha
          by_cases hv:254<v
          · have HX2:=Lib.hid (HX.out.trans (if_pos hv))
            go_enter Tryz.func90,Tryz.ntmps90
            go_wp2_with fail
            refine CT.out.mono ?_
            rintro e w1 ⟨rfl,hb⟩
            have HB:=Lib.hid hb
            clear hb CT
            go_wp2_with (go_at_call 121;refine (C.out _).mono ?_;rintro e w2 ⟨rfl,hb2⟩)
            go_ret2
            rw[HX2.out]
            refine⟨rfl,?_⟩
            rcases hb2 with rfl|⟨t,rfl⟩
            · exact HB.out
            · exact HB.out.trans ((Lib.bytesWorld_below _ _ _).mono HB.out.size)
          · have hv2:v≤254:=by omega
            have HX2:=Lib.hid (HX.out.trans (if_neg hv))
            go_enter Tryz.func90,Tryz.ntmps90
            go_wp2_with fail
            refine CT.out.mono ?_
            rintro e w1 ⟨rfl,hb⟩
            have HB:=Lib.hid hb
            clear hb CT
            go_wp2_with (go_at_call 121;refine (C.out _).mono ?_;rintro e w2 ⟨rfl,hb2⟩)
            go_ret2
            rw[HX2.out]
            refine⟨rfl,?_⟩
            rcases hb2 with rfl|⟨t,rfl⟩
            · exact HB.out
            · exact HB.out.trans ((Lib.bytesWorld_below _ _ _).mono HB.out.size)
        | range =>
          have C:=Lib.hid (fun W ev h1 h2=>Tryz.strconv_Atoi_range s (by omega) (by rw[hl];exact ha) ev W h1 h2)
          have HX:Hid (clsP l=(1,0)):=Lib.hid (by unfold clsP;rw[if_neg HC.out,ha])
          clear ha
          go_enter Tryz.func90,Tryz.ntmps90
          go_wp2_with fail
          refine CT.out.mono ?_
          rintro e w1 ⟨rfl,hb⟩
          have HB:=Lib.hid hb
          clear hb CT
          obtain⟨⟨t1,p1,v1⟩,t2,p2,v2⟩:=HV.out.below HB.out
          have C2:=Lib.hid (C.out w1 _ v2 (.inr ⟨_,_,rfl⟩))
          clear v1 v2 C
          go_wp2_with (go_at_call 121;refine C2.out.mono ?_;rintro e w2 ⟨N,rfl,_,_,hb2⟩)
          go_ret2
          rw[HX.out]
          exact⟨rfl,HB.out.trans (hb2.mono HB.out.size)⟩
        | _ =>
          have C:=Lib.hid (fun W ev h1 h2=>Tryz.strconv_Atoi_syntax s (by omega) (by rw[hl];exact ha) ev W h1 h2)
          have HX:Hid (clsP l=(1,0)):=Lib.hid (by unfold clsP;rw[if_neg HC.out,ha])
          clear ha
          go_enter Tryz.func90,Tryz.ntmps90
          go_wp2_with fail
          refine CT.out.mono ?_
          rintro e w1 ⟨rfl,hb⟩
          have HB:=Lib.hid hb
          clear hb CT
          obtain⟨⟨t1,p1,v1⟩,t2,p2,v2⟩:=HV.out.below HB.out
          have C2:=Lib.hid (C.out w1 _ v1 (.inr ⟨_,_,rfl⟩))
          clear v1 v2 C
          go_wp2_with (go_at_call 121;refine C2.out.mono ?_;rintro e w2 ⟨N,rfl,_,_,hb2⟩)
          go_ret2
          rw[HX.out]
          exact⟨rfl,HB.out.trans (hb2.mono HB.out.size)⟩
  · have e0:T.isEmpty=false:=by
      cases T with
      | nil=>exact absurd rfl hT0
      | cons=>rfl
    have HX:Hid (clsP l=(11,0)):=Lib.hid (by unfold clsP;rw[if_pos (.inl (by rw[hT];exact hT0))])
    clear hh0 hT hne hl2
    go_enter Tryz.func90,Tryz.ntmps90
    go_wp2_with fail
    refine CT.out.mono ?_
    rintro e w1 ⟨rfl,hb⟩
    have HB:=Lib.hid hb
    clear hb CT
    go_wp2
    go_ret2
    rw[HX.out]
    exact⟨rfl,HB.out⟩

abbrev kdN:List (List UInt8):=[[111,116,104,101,114],[108,101,116,116,101,114],[100,105,103,105,116],[109,97,114,107],[115,112,97,99,101],[99,111,110,116,114,111,108],[106,111,105,110,101,114],[109,105,100,100,108,101]]
def kndP (l:List UInt8):Nat × Nat:=match kdN.findIdx? (fun x=>x==l) with
  | some k=>(0,k)
  | none=>(12,0)
def KTab (w:World):Prop:=∀k (hk:k<8),w.cell? ⟨2,k,none⟩=some (.string ⟨(kdN[k]'hk).toArray⟩)
theorem KTab.below {A B:World} (h:KTab A) (hb:Below A.heap.size A B):KTab B:=fun k hk=>(hb.cell (lt_of_cell (h k hk))).trans (h k hk)

set_option maxRecDepth 100000 in
set_option maxHeartbeats 2000000 in
theorem pkind (s:ByteArray) (w:World) (hK:KTab w) :
    Calls Tryz.prog 91 #[.string s] w fun e w'=>e = .returned (.tuple #[.int .i64 (kndP s.data.toList).2,.int .i64 (kndP s.data.toList).1])∧w'=w:=by
  have hl2:s.toList=s.data.toList:=ByteArray.toList_eq s
  obtain⟨l,hl⟩:∃l,s.data.toList=l:=⟨_,rfl⟩
  rw[hl] at hl2 ⊢
  have c0:w.cell? ⟨2,0,none⟩=some (.string ⟨#[111,116,104,101,114]⟩):=hK 0 (by decide)
  have c1:w.cell? ⟨2,1,none⟩=some (.string ⟨#[108,101,116,116,101,114]⟩):=hK 1 (by decide)
  have c2:w.cell? ⟨2,2,none⟩=some (.string ⟨#[100,105,103,105,116]⟩):=hK 2 (by decide)
  have c3:w.cell? ⟨2,3,none⟩=some (.string ⟨#[109,97,114,107]⟩):=hK 3 (by decide)
  have c4:w.cell? ⟨2,4,none⟩=some (.string ⟨#[115,112,97,99,101]⟩):=hK 4 (by decide)
  have c5:w.cell? ⟨2,5,none⟩=some (.string ⟨#[99,111,110,116,114,111,108]⟩):=hK 5 (by decide)
  have c6:w.cell? ⟨2,6,none⟩=some (.string ⟨#[106,111,105,110,101,114]⟩):=hK 6 (by decide)
  have c7:w.cell? ⟨2,7,none⟩=some (.string ⟨#[109,105,100,100,108,101]⟩):=hK 7 (by decide)
  have x0:∀W,(Instr.index 133 (.agg #[.string ⟨#[111,116,104,101,114]⟩,.string ⟨#[108,101,116,116,101,114]⟩,.string ⟨#[100,105,103,105,116]⟩,.string ⟨#[109,97,114,107]⟩,.string ⟨#[115,112,97,99,101]⟩,.string ⟨#[99,111,110,116,114,111,108]⟩,.string ⟨#[106,111,105,110,101,114]⟩,.string ⟨#[109,105,100,100,108,101]⟩]) (.int .i64 0)).run Tryz.prog W = .ok (.string ⟨#[111,116,104,101,114]⟩) W:=fun W=>by kernel_rfl
  have x1:∀W,(Instr.index 133 (.agg #[.string ⟨#[111,116,104,101,114]⟩,.string ⟨#[108,101,116,116,101,114]⟩,.string ⟨#[100,105,103,105,116]⟩,.string ⟨#[109,97,114,107]⟩,.string ⟨#[115,112,97,99,101]⟩,.string ⟨#[99,111,110,116,114,111,108]⟩,.string ⟨#[106,111,105,110,101,114]⟩,.string ⟨#[109,105,100,100,108,101]⟩]) (.int .i64 1)).run Tryz.prog W = .ok (.string ⟨#[108,101,116,116,101,114]⟩) W:=fun W=>by kernel_rfl
  have x2:∀W,(Instr.index 133 (.agg #[.string ⟨#[111,116,104,101,114]⟩,.string ⟨#[108,101,116,116,101,114]⟩,.string ⟨#[100,105,103,105,116]⟩,.string ⟨#[109,97,114,107]⟩,.string ⟨#[115,112,97,99,101]⟩,.string ⟨#[99,111,110,116,114,111,108]⟩,.string ⟨#[106,111,105,110,101,114]⟩,.string ⟨#[109,105,100,100,108,101]⟩]) (.int .i64 2)).run Tryz.prog W = .ok (.string ⟨#[100,105,103,105,116]⟩) W:=fun W=>by kernel_rfl
  have x3:∀W,(Instr.index 133 (.agg #[.string ⟨#[111,116,104,101,114]⟩,.string ⟨#[108,101,116,116,101,114]⟩,.string ⟨#[100,105,103,105,116]⟩,.string ⟨#[109,97,114,107]⟩,.string ⟨#[115,112,97,99,101]⟩,.string ⟨#[99,111,110,116,114,111,108]⟩,.string ⟨#[106,111,105,110,101,114]⟩,.string ⟨#[109,105,100,100,108,101]⟩]) (.int .i64 3)).run Tryz.prog W = .ok (.string ⟨#[109,97,114,107]⟩) W:=fun W=>by kernel_rfl
  have x4:∀W,(Instr.index 133 (.agg #[.string ⟨#[111,116,104,101,114]⟩,.string ⟨#[108,101,116,116,101,114]⟩,.string ⟨#[100,105,103,105,116]⟩,.string ⟨#[109,97,114,107]⟩,.string ⟨#[115,112,97,99,101]⟩,.string ⟨#[99,111,110,116,114,111,108]⟩,.string ⟨#[106,111,105,110,101,114]⟩,.string ⟨#[109,105,100,100,108,101]⟩]) (.int .i64 4)).run Tryz.prog W = .ok (.string ⟨#[115,112,97,99,101]⟩) W:=fun W=>by kernel_rfl
  have x5:∀W,(Instr.index 133 (.agg #[.string ⟨#[111,116,104,101,114]⟩,.string ⟨#[108,101,116,116,101,114]⟩,.string ⟨#[100,105,103,105,116]⟩,.string ⟨#[109,97,114,107]⟩,.string ⟨#[115,112,97,99,101]⟩,.string ⟨#[99,111,110,116,114,111,108]⟩,.string ⟨#[106,111,105,110,101,114]⟩,.string ⟨#[109,105,100,100,108,101]⟩]) (.int .i64 5)).run Tryz.prog W = .ok (.string ⟨#[99,111,110,116,114,111,108]⟩) W:=fun W=>by kernel_rfl
  have x6:∀W,(Instr.index 133 (.agg #[.string ⟨#[111,116,104,101,114]⟩,.string ⟨#[108,101,116,116,101,114]⟩,.string ⟨#[100,105,103,105,116]⟩,.string ⟨#[109,97,114,107]⟩,.string ⟨#[115,112,97,99,101]⟩,.string ⟨#[99,111,110,116,114,111,108]⟩,.string ⟨#[106,111,105,110,101,114]⟩,.string ⟨#[109,105,100,100,108,101]⟩]) (.int .i64 6)).run Tryz.prog W = .ok (.string ⟨#[106,111,105,110,101,114]⟩) W:=fun W=>by kernel_rfl
  have x7:∀W,(Instr.index 133 (.agg #[.string ⟨#[111,116,104,101,114]⟩,.string ⟨#[108,101,116,116,101,114]⟩,.string ⟨#[100,105,103,105,116]⟩,.string ⟨#[109,97,114,107]⟩,.string ⟨#[115,112,97,99,101]⟩,.string ⟨#[99,111,110,116,114,111,108]⟩,.string ⟨#[106,111,105,110,101,114]⟩,.string ⟨#[109,105,100,100,108,101]⟩]) (.int .i64 7)).run Tryz.prog W = .ok (.string ⟨#[109,105,100,100,108,101]⟩) W:=fun W=>by kernel_rfl
  clear hK hl
  go_enter Tryz.func91,Tryz.ntmps91
  go_wp2
  go_loopw [7] (fun vi wr=>∃i:Nat,vi = .int .i64 i∧i≤8∧Hid (∀k (hk:k<8),k<i→kdN[k]'hk≠l)∧wr=w) (fun vi _=>8-(RowKit.intOf vi).toNat)
  case atStart=>exact⟨0,rfl,by omega,Lib.hid (fun k _ h=>absurd h (by omega)),rfl⟩
  case round =>
    obtain⟨i,hv,hi,hh,rfl⟩:=hrel
    rcases (by omega:i=0∨i=1∨i=2∨i=3∨i=4∨i=5∨i=6∨i=7∨i=8) with rfl|rfl|rfl|rfl|rfl|rfl|rfl|rfl|rfl
    · replace hv:=hv.trans (show Value.int .i64 ((0:Nat):Int) = .int .i64 0 from rfl)
      subst hv
      by_cases hk:l=[111,116,104,101,114]
      · have HX:Hid (kndP l=(0,0)):=Lib.hid (by rw[hk];rfl)
        have b1:([111,116,104,101,114]==l)=true:=by rw[hk];rfl
        clear hk
        go_wp2
        go_ret2
        rw[HX.out]
        exact⟨rfl,rfl⟩
      · have HQ:Hid (∀k (hk:k<8),k<1→kdN[k]'hk≠l):=Lib.hid (fun j h1 h2=>by
          rcases Nat.lt_or_ge j 0 with h3|h3
          · exact hh.out j h1 h3
          · have e:j=0:=by omega
            subst e
            exact fun e=>hk e.symm)
        have b1:([111,116,104,101,114]==l)=false:=beq_eq_false_iff_ne.2 (fun e=>hk e.symm)
        clear hh hk
        go_wp2
        go_roundw
        case rel=>exact⟨1,rfl,by omega,HQ,by trivial⟩
        case measure=>simp[RowKit.intOf]
    · replace hv:=hv.trans (show Value.int .i64 ((1:Nat):Int) = .int .i64 1 from rfl)
      subst hv
      by_cases hk:l=[108,101,116,116,101,114]
      · have HX:Hid (kndP l=(0,1)):=Lib.hid (by rw[hk];rfl)
        have b1:([108,101,116,116,101,114]==l)=true:=by rw[hk];rfl
        clear hk
        go_wp2
        go_ret2
        rw[HX.out]
        exact⟨rfl,rfl⟩
      · have HQ:Hid (∀k (hk:k<8),k<2→kdN[k]'hk≠l):=Lib.hid (fun j h1 h2=>by
          rcases Nat.lt_or_ge j 1 with h3|h3
          · exact hh.out j h1 h3
          · have e:j=1:=by omega
            subst e
            exact fun e=>hk e.symm)
        have b1:([108,101,116,116,101,114]==l)=false:=beq_eq_false_iff_ne.2 (fun e=>hk e.symm)
        clear hh hk
        go_wp2
        go_roundw
        case rel=>exact⟨2,rfl,by omega,HQ,by trivial⟩
        case measure=>simp[RowKit.intOf]
    · replace hv:=hv.trans (show Value.int .i64 ((2:Nat):Int) = .int .i64 2 from rfl)
      subst hv
      by_cases hk:l=[100,105,103,105,116]
      · have HX:Hid (kndP l=(0,2)):=Lib.hid (by rw[hk];rfl)
        have b1:([100,105,103,105,116]==l)=true:=by rw[hk];rfl
        clear hk
        go_wp2
        go_ret2
        rw[HX.out]
        exact⟨rfl,rfl⟩
      · have HQ:Hid (∀k (hk:k<8),k<3→kdN[k]'hk≠l):=Lib.hid (fun j h1 h2=>by
          rcases Nat.lt_or_ge j 2 with h3|h3
          · exact hh.out j h1 h3
          · have e:j=2:=by omega
            subst e
            exact fun e=>hk e.symm)
        have b1:([100,105,103,105,116]==l)=false:=beq_eq_false_iff_ne.2 (fun e=>hk e.symm)
        clear hh hk
        go_wp2
        go_roundw
        case rel=>exact⟨3,rfl,by omega,HQ,by trivial⟩
        case measure=>simp[RowKit.intOf]
    · replace hv:=hv.trans (show Value.int .i64 ((3:Nat):Int) = .int .i64 3 from rfl)
      subst hv
      by_cases hk:l=[109,97,114,107]
      · have HX:Hid (kndP l=(0,3)):=Lib.hid (by rw[hk];rfl)
        have b1:([109,97,114,107]==l)=true:=by rw[hk];rfl
        clear hk
        go_wp2
        go_ret2
        rw[HX.out]
        exact⟨rfl,rfl⟩
      · have HQ:Hid (∀k (hk:k<8),k<4→kdN[k]'hk≠l):=Lib.hid (fun j h1 h2=>by
          rcases Nat.lt_or_ge j 3 with h3|h3
          · exact hh.out j h1 h3
          · have e:j=3:=by omega
            subst e
            exact fun e=>hk e.symm)
        have b1:([109,97,114,107]==l)=false:=beq_eq_false_iff_ne.2 (fun e=>hk e.symm)
        clear hh hk
        go_wp2
        go_roundw
        case rel=>exact⟨4,rfl,by omega,HQ,by trivial⟩
        case measure=>simp[RowKit.intOf]
    · replace hv:=hv.trans (show Value.int .i64 ((4:Nat):Int) = .int .i64 4 from rfl)
      subst hv
      by_cases hk:l=[115,112,97,99,101]
      · have HX:Hid (kndP l=(0,4)):=Lib.hid (by rw[hk];rfl)
        have b1:([115,112,97,99,101]==l)=true:=by rw[hk];rfl
        clear hk
        go_wp2
        go_ret2
        rw[HX.out]
        exact⟨rfl,rfl⟩
      · have HQ:Hid (∀k (hk:k<8),k<5→kdN[k]'hk≠l):=Lib.hid (fun j h1 h2=>by
          rcases Nat.lt_or_ge j 4 with h3|h3
          · exact hh.out j h1 h3
          · have e:j=4:=by omega
            subst e
            exact fun e=>hk e.symm)
        have b1:([115,112,97,99,101]==l)=false:=beq_eq_false_iff_ne.2 (fun e=>hk e.symm)
        clear hh hk
        go_wp2
        go_roundw
        case rel=>exact⟨5,rfl,by omega,HQ,by trivial⟩
        case measure=>simp[RowKit.intOf]
    · replace hv:=hv.trans (show Value.int .i64 ((5:Nat):Int) = .int .i64 5 from rfl)
      subst hv
      by_cases hk:l=[99,111,110,116,114,111,108]
      · have HX:Hid (kndP l=(0,5)):=Lib.hid (by rw[hk];rfl)
        have b1:([99,111,110,116,114,111,108]==l)=true:=by rw[hk];rfl
        clear hk
        go_wp2
        go_ret2
        rw[HX.out]
        exact⟨rfl,rfl⟩
      · have HQ:Hid (∀k (hk:k<8),k<6→kdN[k]'hk≠l):=Lib.hid (fun j h1 h2=>by
          rcases Nat.lt_or_ge j 5 with h3|h3
          · exact hh.out j h1 h3
          · have e:j=5:=by omega
            subst e
            exact fun e=>hk e.symm)
        have b1:([99,111,110,116,114,111,108]==l)=false:=beq_eq_false_iff_ne.2 (fun e=>hk e.symm)
        clear hh hk
        go_wp2
        go_roundw
        case rel=>exact⟨6,rfl,by omega,HQ,by trivial⟩
        case measure=>simp[RowKit.intOf]
    · replace hv:=hv.trans (show Value.int .i64 ((6:Nat):Int) = .int .i64 6 from rfl)
      subst hv
      by_cases hk:l=[106,111,105,110,101,114]
      · have HX:Hid (kndP l=(0,6)):=Lib.hid (by rw[hk];rfl)
        have b1:([106,111,105,110,101,114]==l)=true:=by rw[hk];rfl
        clear hk
        go_wp2
        go_ret2
        rw[HX.out]
        exact⟨rfl,rfl⟩
      · have HQ:Hid (∀k (hk:k<8),k<7→kdN[k]'hk≠l):=Lib.hid (fun j h1 h2=>by
          rcases Nat.lt_or_ge j 6 with h3|h3
          · exact hh.out j h1 h3
          · have e:j=6:=by omega
            subst e
            exact fun e=>hk e.symm)
        have b1:([106,111,105,110,101,114]==l)=false:=beq_eq_false_iff_ne.2 (fun e=>hk e.symm)
        clear hh hk
        go_wp2
        go_roundw
        case rel=>exact⟨7,rfl,by omega,HQ,by trivial⟩
        case measure=>simp[RowKit.intOf]
    · replace hv:=hv.trans (show Value.int .i64 ((7:Nat):Int) = .int .i64 7 from rfl)
      subst hv
      by_cases hk:l=[109,105,100,100,108,101]
      · have HX:Hid (kndP l=(0,7)):=Lib.hid (by rw[hk];rfl)
        have b1:([109,105,100,100,108,101]==l)=true:=by rw[hk];rfl
        clear hk
        go_wp2
        go_ret2
        rw[HX.out]
        exact⟨rfl,rfl⟩
      · have HQ:Hid (∀k (hk:k<8),k<8→kdN[k]'hk≠l):=Lib.hid (fun j h1 h2=>by
          rcases Nat.lt_or_ge j 7 with h3|h3
          · exact hh.out j h1 h3
          · have e:j=7:=by omega
            subst e
            exact fun e=>hk e.symm)
        have b1:([109,105,100,100,108,101]==l)=false:=beq_eq_false_iff_ne.2 (fun e=>hk e.symm)
        clear hh hk
        go_wp2
        go_roundw
        case rel=>exact⟨8,rfl,by omega,HQ,by trivial⟩
        case measure=>simp[RowKit.intOf]
    · replace hv:=hv.trans (show Value.int .i64 ((8:Nat):Int) = .int .i64 8 from rfl)
      subst hv
      have HX:Hid (kndP l=(12,0)):=Lib.hid (by
        unfold kndP
        rw[List.findIdx?_eq_none_iff.2 (fun x hx=>?_)]
        obtain⟨k,hk,rfl⟩:=List.getElem_of_mem hx
        exact beq_eq_false_iff_ne.2 (hh.out k hk hk))
      go_wp2
      go_ret2
      rw[HX.out]
      exact⟨rfl,rfl⟩
end Go.Proofs.YtgpbaeehajkebaaGreatDoor
namespace Go.Proofs.YtgpbaeehajkebaaGreatDoor
open Go Go.RowKit Go.Kt Go.Kt.Rg
theorem results_cell2 {P:Program} {fn:Func} {p a:Tmp} {ty:TypeId} (h:fn.results = #[.cell p ty,.tmp a]) (tmps:Array Value) (w:World) (g:Nat) (t:TypeId) (cs:Array Value) (fr:Nat × Nat) (d:TypeDesc)
 (hp:tmps.getD p undef = .pointer (some ⟨g,0,none⟩)) (hg:w.heap[g]? = some (.cells cs t fr))
 (hu:P.underlying ty=some d) (hd:(match d with | .struct _ | .array _ _=>true|_=>false)=true) (hi:(P.info? ty).map (·.size)=some cs.size) :
 (results fn tmps).run P w = .ok (.tuple #[.agg cs,tmps.getD a undef]) w:=by
 have hp':tmps[p]?.getD undef = .pointer (some ⟨g,0,none⟩):=by simpa using hp
 simp[results,h,hp',asAddr,run_loadVar_row w g t ty cs fr d hg hu hd hi]
theorem ptwo_cells {V:World} {g:Nat} {a b x y:Value} {T:TypeId} (h:V.heap[g]? = some (.cells #[a,b] T (0,0))) :
 ((V.setCell ⟨g,0,none⟩ x).setCell ⟨g,1,none⟩ y).heap[g]? = some (.cells #[x,y] T (0,0)):=by
 have h1:=heap_setCell_same V g 0 _ _ x h
 have h2:=heap_setCell_same (V.setCell ⟨g,0,none⟩ x) g 1 _ _ y h1
 simpa using h2
def MVar (w:World):Prop:=∃m:Int,w.cell? ⟨1,0,none⟩=some (.int .i64 m)
theorem MVar.below {A B:World} (h:MVar A) (hb:Below A.heap.size A B):MVar B:=by
 obtain⟨m,h⟩:=h
 exact⟨m,(hb.cell (lt_of_cell h)).trans h⟩
structure PEnv (w:World):Prop where
 v:PVar w
 k:KTab w
 m:MVar w
theorem PEnv.below {A B:World} (h:PEnv A) (hb:Below A.heap.size A B):PEnv B:=⟨h.v.below hb,h.k.below hb,h.m.below hb⟩
def spnO (o1 o2:Option Nat):Nat × Nat × Nat:=match o1,o2 with
 | some lo,some hi=>if Lib.validRune lo=false∨Lib.validRune hi=false then (8,0,0) else if hi<lo then (1,0,0) else (0,lo,hi)
 | _,_=>(11,0,0)
def spnP (l:List UInt8):Nat × Nat × Nat :=
 spnO (numP (Lib.cut l [46,46]).1) (numP (if (Lib.cut l [46,46]).2.2 then (Lib.cut l [46,46]).2.1 else (Lib.cut l [46,46]).1))
theorem spnO_some (lo hi:Nat):spnO (some lo) (some hi)=if Lib.validRune lo=false∨Lib.validRune hi=false then (8,0,0) else if hi<lo then (1,0,0) else (0,lo,hi):=rfl
theorem cut_le (l sep:List UInt8):(Lib.cut l sep).1.length≤l.length∧(Lib.cut l sep).2.1.length≤l.length:=by
 unfold Lib.cut
 split
 ·exact⟨by simp only[List.length_take];omega,by simp only[List.length_drop];omega⟩
 ·exact⟨Nat.le_refl _,Nat.zero_le _⟩
theorem bsize (l:List UInt8):(⟨l.toArray⟩:ByteArray).size=l.length:=by show l.toArray.size=_;simp
set_option maxRecDepth 100000 in
set_option maxHeartbeats 2000000 in
theorem pspan (s:ByteArray) (w:World) (hs:s.size≤1048576) (hE:PEnv w) :
 Calls Tryz.prog 119 #[.string s] w fun e w'=>e = .returned (.tuple #[.agg #[.int .i32 (spnP s.data.toList).2.1,.int .i32 (spnP s.data.toList).2.2],.int .i64 (spnP s.data.toList).1])∧Below w.heap.size w w':=by
 obtain⟨m,hm⟩:=hE.m
 have CC:=Lib.hid (fun W (h:W.cell? ⟨1,0,none⟩=some (.int .i64 m))=>Tryz.strings_Cut s ⟨#[46,46]⟩ m W (by omega) h)
 obtain⟨l,hl⟩:∃l,s.data.toList=l:=⟨_,rfl⟩
 have hln:l.length=s.size:=by rw[←hl];exact (Lib.size_eq s).symm
 have hcl:=cut_le l [46,46]
 have hX:spnP l=spnO (numP (Lib.cut l [46,46]).1) (numP (if (Lib.cut l [46,46]).2.2 then (Lib.cut l [46,46]).2.1 else (Lib.cut l [46,46]).1)):=rfl
 obtain⟨⟨a,b,ok⟩,hc⟩:∃z,Lib.cut l [46,46]=z:=⟨_,rfl⟩
 rw[hl] at CC ⊢
 rw[hc] at hcl hX
 replace CC:Hid (∀W,W.cell? ⟨1,0,none⟩=some (.int .i64 m)→Calls Tryz.prog 60 #[.string s,.string ⟨#[46,46]⟩] W fun e w'=>e = .returned (.tuple #[.string ⟨a.toArray⟩,.string ⟨b.toArray⟩,.bool ok])∧∃n,w'=W.drewN n):=Lib.hid (fun W h=>by have:=CC.out W h;rw[show (⟨#[46,46]⟩:ByteArray).data.toList=[46,46] from rfl,hc] at this;exact this)
 simp only at hcl hX
 obtain⟨ha,hb⟩:=hcl
 have CA:=Lib.hid (fun W (h:PEnv W)=>pnumber ⟨a.toArray⟩ W (by rw[bsize];omega) h.v)
 have CB:=Lib.hid (fun W (h:PEnv W)=>pnumber ⟨b.toArray⟩ W (by rw[bsize];omega) h.v)
 have HE:=Lib.hid hE
 have HX0:=Lib.hid hX
 have hm1:(w.alloc (.cells #[.int .i32 0,.int .i32 0] 124)).cell? ⟨1,0,none⟩=some (.int .i64 m):=(((Below.refl _ _).alloc (Nat.le_refl _) _).cell (lt_of_cell hm)).trans hm
 have CC1:=Lib.hid (CC.out _ hm1)
 have H0:Hid (Below w.heap.size w (w.alloc (.cells #[.int .i32 0,.int .i32 0] 124))∧(w.alloc (.cells #[.int .i32 0,.int .i32 0] 124)).heap[w.heap.size]? = some (.cells #[.int .i32 0,.int .i32 0] 124 (0,0))):=Lib.hid ⟨(Below.refl _ _).alloc (Nat.le_refl _) _,heap_alloc_new _ _⟩
 clear hX hE hm hm1 CC hc hl hln ha hb hs
 cases ok
 ·have HX1:Hid (spnP l=spnO (numP a) (numP a)):=HX0
  clear HX0
  cases ho1:numP a with
  | none =>
    have HX:Hid (spnP l=(11,0,0)):=Lib.hid (by rw[HX1.out,ho1];rfl)
    clear HX1
    go_enter Tryz.func119,Tryz.ntmps119
    go_wp2_with fail
    refine CC1.out.mono ?_
    rintro e w1 ⟨rfl,q,rfl⟩
    have H1:Hid (Below w.heap.size w ((w.alloc (.cells #[.int .i32 0,.int .i32 0] 124)).drewN q)∧((w.alloc (.cells #[.int .i32 0,.int .i32 0] 124)).drewN q).heap[w.heap.size]? = some (.cells #[.int .i32 0,.int .i32 0] 124 (0,0))):=Lib.hid ⟨below_drewN H0.out.1 q,H0.out.2⟩
    generalize (w.alloc (.cells #[.int .i32 0,.int .i32 0] 124)).drewN q=w1 at H1 ⊢
    clear CC1 H0
    go_wp2_with fail
    refine (CA.out w1 (HE.out.below H1.out.1)).mono ?_
    rintro e w2 ⟨hp,hb2⟩
    have H2:=Lib.hid (show Below w.heap.size w w2∧w2.heap[w.heap.size]? = some (.cells #[.int .i32 0,.int .i32 0] 124 (0,0)) from⟨H1.out.1.trans (hb2.mono H1.out.1.size),(hb2.block _ (by have:=(Array.getElem?_eq_some_iff.1 H1.out.2).1;exact this)).trans H1.out.2⟩)
    clear hb2 H1
    rw[ho1] at hp
    obtain⟨z1,rfl⟩:=hp
    go_wp2_with fail
    refine (CA.out w2 (HE.out.below H2.out.1)).mono ?_
    rintro e w3 ⟨hp,hb3⟩
    have H3:=Lib.hid (show Below w.heap.size w w3∧w3.heap[w.heap.size]? = some (.cells #[.int .i32 0,.int .i32 0] 124 (0,0)) from⟨H2.out.1.trans (hb3.mono H2.out.1.size),(hb3.block _ (by have:=(Array.getElem?_eq_some_iff.1 H2.out.2).1;exact this)).trans H2.out.2⟩)
    clear hb3 H2
    rw[ho1] at hp
    obtain⟨z2,rfl⟩:=hp
    have c0:w3.cell? ⟨w.heap.size,0,none⟩=some (.int .i32 0):=by rw[Lib.cell_of_heap H3.out.2];rfl
    have c1:w3.cell? ⟨w.heap.size,1,none⟩=some (.int .i32 0):=by rw[Lib.cell_of_heap H3.out.2];rfl
    have f0:w3.frozen? ⟨w.heap.size,0,none⟩=false:=Lib.frozen_of_heap H3.out.2 _
    have f1:w3.frozen? ⟨w.heap.size,1,none⟩=false:=Lib.frozen_of_heap H3.out.2 _
    go_wp2_with (go_at_call 123;refine (Tryz.utf8_ValidRune _ _).mono ?_;rintro e w4 ⟨rfl,rfl⟩)
    (try simp only[Exit.inBlock,Exit.then])
    refine bodyPost_ret (results_cell2 rfl _ _ w.heap.size 124 #[.int .i32 0,.int .i32 0] (0,0) _ rfl (ptwo_cells H3.out.2) Tryz.underlying124 rfl (by kernel_rfl)) rfl ?_
    rw[HX.out]
    exact⟨rfl,(H3.out.1.setCell (Nat.le_refl _) _).setCell (Nat.le_refl _) _⟩
  | some lo =>
    have hlo:=numP_le ho1
    cases v1:Lib.validRune (lo:Int)
    ·have HX:Hid (spnP l=(8,0,0)):=Lib.hid (by rw[HX1.out,ho1,spnO_some];exact if_pos (.inl v1))
     clear HX1
     go_enter Tryz.func119,Tryz.ntmps119
     go_wp2_with fail
     refine CC1.out.mono ?_
     rintro e w1 ⟨rfl,q,rfl⟩
     have H1:Hid (Below w.heap.size w ((w.alloc (.cells #[.int .i32 0,.int .i32 0] 124)).drewN q)∧((w.alloc (.cells #[.int .i32 0,.int .i32 0] 124)).drewN q).heap[w.heap.size]? = some (.cells #[.int .i32 0,.int .i32 0] 124 (0,0))):=Lib.hid ⟨below_drewN H0.out.1 q,H0.out.2⟩
     generalize (w.alloc (.cells #[.int .i32 0,.int .i32 0] 124)).drewN q=w1 at H1 ⊢
     clear CC1 H0
     go_wp2_with fail
     refine (CA.out w1 (HE.out.below H1.out.1)).mono ?_
     rintro e w2 ⟨hp,hb2⟩
     have H2:=Lib.hid (show Below w.heap.size w w2∧w2.heap[w.heap.size]? = some (.cells #[.int .i32 0,.int .i32 0] 124 (0,0)) from⟨H1.out.1.trans (hb2.mono H1.out.1.size),(hb2.block _ (by have:=(Array.getElem?_eq_some_iff.1 H1.out.2).1;exact this)).trans H1.out.2⟩)
     clear hb2 H1
     rw[ho1] at hp
     obtain rfl:=hp
     go_wp2_with fail
     refine (CA.out w2 (HE.out.below H2.out.1)).mono ?_
     rintro e w3 ⟨hp,hb3⟩
     have H3:=Lib.hid (show Below w.heap.size w w3∧w3.heap[w.heap.size]? = some (.cells #[.int .i32 0,.int .i32 0] 124 (0,0)) from⟨H2.out.1.trans (hb3.mono H2.out.1.size),(hb3.block _ (by have:=(Array.getElem?_eq_some_iff.1 H2.out.2).1;exact this)).trans H2.out.2⟩)
     clear hb3 H2
     rw[ho1] at hp
     obtain rfl:=hp
     have c0:w3.cell? ⟨w.heap.size,0,none⟩=some (.int .i32 0):=by rw[Lib.cell_of_heap H3.out.2];rfl
     have c1:w3.cell? ⟨w.heap.size,1,none⟩=some (.int .i32 0):=by rw[Lib.cell_of_heap H3.out.2];rfl
     have f0:w3.frozen? ⟨w.heap.size,0,none⟩=false:=Lib.frozen_of_heap H3.out.2 _
     have f1:w3.frozen? ⟨w.heap.size,1,none⟩=false:=Lib.frozen_of_heap H3.out.2 _
     go_wp2_with (go_at_call 123;refine (Tryz.utf8_ValidRune _ _).mono ?_;rintro e w4 ⟨rfl,rfl⟩)
     (try simp only[Exit.inBlock,Exit.then])
     refine bodyPost_ret (results_cell2 rfl _ _ w.heap.size 124 #[.int .i32 0,.int .i32 0] (0,0) _ rfl (ptwo_cells H3.out.2) Tryz.underlying124 rfl (by kernel_rfl)) rfl ?_
     rw[HX.out]
     exact⟨rfl,(H3.out.1.setCell (Nat.le_refl _) _).setCell (Nat.le_refl _) _⟩
    ·have HX:Hid (spnP l=(0,lo,lo)):=Lib.hid (by rw[HX1.out,ho1,spnO_some];exact (if_neg (fun e=>by rcases e with e|e <;> · rw[v1] at e;cases e)).trans (if_neg (Nat.lt_irrefl _)))
     clear HX1
     go_enter Tryz.func119,Tryz.ntmps119
     go_wp2_with fail
     refine CC1.out.mono ?_
     rintro e w1 ⟨rfl,q,rfl⟩
     have H1:Hid (Below w.heap.size w ((w.alloc (.cells #[.int .i32 0,.int .i32 0] 124)).drewN q)∧((w.alloc (.cells #[.int .i32 0,.int .i32 0] 124)).drewN q).heap[w.heap.size]? = some (.cells #[.int .i32 0,.int .i32 0] 124 (0,0))):=Lib.hid ⟨below_drewN H0.out.1 q,H0.out.2⟩
     generalize (w.alloc (.cells #[.int .i32 0,.int .i32 0] 124)).drewN q=w1 at H1 ⊢
     clear CC1 H0
     go_wp2_with fail
     refine (CA.out w1 (HE.out.below H1.out.1)).mono ?_
     rintro e w2 ⟨hp,hb2⟩
     have H2:=Lib.hid (show Below w.heap.size w w2∧w2.heap[w.heap.size]? = some (.cells #[.int .i32 0,.int .i32 0] 124 (0,0)) from⟨H1.out.1.trans (hb2.mono H1.out.1.size),(hb2.block _ (by have:=(Array.getElem?_eq_some_iff.1 H1.out.2).1;exact this)).trans H1.out.2⟩)
     clear hb2 H1
     rw[ho1] at hp
     obtain rfl:=hp
     go_wp2_with fail
     refine (CA.out w2 (HE.out.below H2.out.1)).mono ?_
     rintro e w3 ⟨hp,hb3⟩
     have H3:=Lib.hid (show Below w.heap.size w w3∧w3.heap[w.heap.size]? = some (.cells #[.int .i32 0,.int .i32 0] 124 (0,0)) from⟨H2.out.1.trans (hb3.mono H2.out.1.size),(hb3.block _ (by have:=(Array.getElem?_eq_some_iff.1 H2.out.2).1;exact this)).trans H2.out.2⟩)
     clear hb3 H2
     rw[ho1] at hp
     obtain rfl:=hp
     have c0:w3.cell? ⟨w.heap.size,0,none⟩=some (.int .i32 0):=by rw[Lib.cell_of_heap H3.out.2];rfl
     have c1:w3.cell? ⟨w.heap.size,1,none⟩=some (.int .i32 0):=by rw[Lib.cell_of_heap H3.out.2];rfl
     have f0:w3.frozen? ⟨w.heap.size,0,none⟩=false:=Lib.frozen_of_heap H3.out.2 _
     have f1:w3.frozen? ⟨w.heap.size,1,none⟩=false:=Lib.frozen_of_heap H3.out.2 _
     go_wp2_with (go_at_call 123;refine (Tryz.utf8_ValidRune _ _).mono ?_;rintro e w4 ⟨rfl,rfl⟩)
     (try simp only[Exit.inBlock,Exit.then])
     refine bodyPost_ret (results_cell2 rfl _ _ w.heap.size 124 #[.int .i32 lo,.int .i32 lo] (0,0) _ rfl (ptwo_cells H3.out.2) Tryz.underlying124 rfl (by kernel_rfl)) rfl ?_
     rw[HX.out]
     exact⟨rfl,(H3.out.1.setCell (Nat.le_refl _) _).setCell (Nat.le_refl _) _⟩
 ·have HX1:Hid (spnP l=spnO (numP a) (numP b)):=HX0
  clear HX0
  cases ho1:numP a with
  | none =>
    cases ho2:numP b with
    | none =>
      have HX:Hid (spnP l=(11,0,0)):=Lib.hid (by rw[HX1.out,ho1,ho2];rfl)
      clear HX1
      go_enter Tryz.func119,Tryz.ntmps119
      go_wp2_with fail
      refine CC1.out.mono ?_
      rintro e w1 ⟨rfl,q,rfl⟩
      have H1:Hid (Below w.heap.size w ((w.alloc (.cells #[.int .i32 0,.int .i32 0] 124)).drewN q)∧((w.alloc (.cells #[.int .i32 0,.int .i32 0] 124)).drewN q).heap[w.heap.size]? = some (.cells #[.int .i32 0,.int .i32 0] 124 (0,0))):=Lib.hid ⟨below_drewN H0.out.1 q,H0.out.2⟩
      generalize (w.alloc (.cells #[.int .i32 0,.int .i32 0] 124)).drewN q=w1 at H1 ⊢
      clear CC1 H0
      go_wp2_with fail
      refine (CA.out w1 (HE.out.below H1.out.1)).mono ?_
      rintro e w2 ⟨hp,hb2⟩
      have H2:=Lib.hid (show Below w.heap.size w w2∧w2.heap[w.heap.size]? = some (.cells #[.int .i32 0,.int .i32 0] 124 (0,0)) from⟨H1.out.1.trans (hb2.mono H1.out.1.size),(hb2.block _ (by have:=(Array.getElem?_eq_some_iff.1 H1.out.2).1;exact this)).trans H1.out.2⟩)
      clear hb2 H1
      rw[ho1] at hp
      obtain⟨z1,rfl⟩:=hp
      go_wp2_with fail
      refine (CB.out w2 (HE.out.below H2.out.1)).mono ?_
      rintro e w3 ⟨hp,hb3⟩
      have H3:=Lib.hid (show Below w.heap.size w w3∧w3.heap[w.heap.size]? = some (.cells #[.int .i32 0,.int .i32 0] 124 (0,0)) from⟨H2.out.1.trans (hb3.mono H2.out.1.size),(hb3.block _ (by have:=(Array.getElem?_eq_some_iff.1 H2.out.2).1;exact this)).trans H2.out.2⟩)
      clear hb3 H2
      rw[ho2] at hp
      obtain⟨z2,rfl⟩:=hp
      have c0:w3.cell? ⟨w.heap.size,0,none⟩=some (.int .i32 0):=by rw[Lib.cell_of_heap H3.out.2];rfl
      have c1:w3.cell? ⟨w.heap.size,1,none⟩=some (.int .i32 0):=by rw[Lib.cell_of_heap H3.out.2];rfl
      have f0:w3.frozen? ⟨w.heap.size,0,none⟩=false:=Lib.frozen_of_heap H3.out.2 _
      have f1:w3.frozen? ⟨w.heap.size,1,none⟩=false:=Lib.frozen_of_heap H3.out.2 _
      go_wp2_with (go_at_call 123;refine (Tryz.utf8_ValidRune _ _).mono ?_;rintro e w4 ⟨rfl,rfl⟩)
      (try simp only[Exit.inBlock,Exit.then])
      refine bodyPost_ret (results_cell2 rfl _ _ w.heap.size 124 #[.int .i32 0,.int .i32 0] (0,0) _ rfl (ptwo_cells H3.out.2) Tryz.underlying124 rfl (by kernel_rfl)) rfl ?_
      rw[HX.out]
      exact⟨rfl,(H3.out.1.setCell (Nat.le_refl _) _).setCell (Nat.le_refl _) _⟩
    | some hi =>
      have HX:Hid (spnP l=(11,0,0)):=Lib.hid (by rw[HX1.out,ho1,ho2];rfl)
      have hh:=numP_le ho2
      clear HX1
      go_enter Tryz.func119,Tryz.ntmps119
      go_wp2_with fail
      refine CC1.out.mono ?_
      rintro e w1 ⟨rfl,q,rfl⟩
      have H1:Hid (Below w.heap.size w ((w.alloc (.cells #[.int .i32 0,.int .i32 0] 124)).drewN q)∧((w.alloc (.cells #[.int .i32 0,.int .i32 0] 124)).drewN q).heap[w.heap.size]? = some (.cells #[.int .i32 0,.int .i32 0] 124 (0,0))):=Lib.hid ⟨below_drewN H0.out.1 q,H0.out.2⟩
      generalize (w.alloc (.cells #[.int .i32 0,.int .i32 0] 124)).drewN q=w1 at H1 ⊢
      clear CC1 H0
      go_wp2_with fail
      refine (CA.out w1 (HE.out.below H1.out.1)).mono ?_
      rintro e w2 ⟨hp,hb2⟩
      have H2:=Lib.hid (show Below w.heap.size w w2∧w2.heap[w.heap.size]? = some (.cells #[.int .i32 0,.int .i32 0] 124 (0,0)) from⟨H1.out.1.trans (hb2.mono H1.out.1.size),(hb2.block _ (by have:=(Array.getElem?_eq_some_iff.1 H1.out.2).1;exact this)).trans H1.out.2⟩)
      clear hb2 H1
      rw[ho1] at hp
      obtain⟨z1,rfl⟩:=hp
      go_wp2_with fail
      refine (CB.out w2 (HE.out.below H2.out.1)).mono ?_
      rintro e w3 ⟨hp,hb3⟩
      have H3:=Lib.hid (show Below w.heap.size w w3∧w3.heap[w.heap.size]? = some (.cells #[.int .i32 0,.int .i32 0] 124 (0,0)) from⟨H2.out.1.trans (hb3.mono H2.out.1.size),(hb3.block _ (by have:=(Array.getElem?_eq_some_iff.1 H2.out.2).1;exact this)).trans H2.out.2⟩)
      clear hb3 H2
      rw[ho2] at hp
      obtain rfl:=hp
      have c0:w3.cell? ⟨w.heap.size,0,none⟩=some (.int .i32 0):=by rw[Lib.cell_of_heap H3.out.2];rfl
      have c1:w3.cell? ⟨w.heap.size,1,none⟩=some (.int .i32 0):=by rw[Lib.cell_of_heap H3.out.2];rfl
      have f0:w3.frozen? ⟨w.heap.size,0,none⟩=false:=Lib.frozen_of_heap H3.out.2 _
      have f1:w3.frozen? ⟨w.heap.size,1,none⟩=false:=Lib.frozen_of_heap H3.out.2 _
      go_wp2_with (go_at_call 123;refine (Tryz.utf8_ValidRune _ _).mono ?_;rintro e w4 ⟨rfl,rfl⟩)
      (try simp only[Exit.inBlock,Exit.then])
      refine bodyPost_ret (results_cell2 rfl _ _ w.heap.size 124 #[.int .i32 0,.int .i32 0] (0,0) _ rfl (ptwo_cells H3.out.2) Tryz.underlying124 rfl (by kernel_rfl)) rfl ?_
      rw[HX.out]
      exact⟨rfl,(H3.out.1.setCell (Nat.le_refl _) _).setCell (Nat.le_refl _) _⟩
  | some lo =>
    have hlo:=numP_le ho1
    cases ho2:numP b with
    | none =>
      have HX:Hid (spnP l=(11,0,0)):=Lib.hid (by rw[HX1.out,ho1,ho2];rfl)
      clear HX1
      go_enter Tryz.func119,Tryz.ntmps119
      go_wp2_with fail
      refine CC1.out.mono ?_
      rintro e w1 ⟨rfl,q,rfl⟩
      have H1:Hid (Below w.heap.size w ((w.alloc (.cells #[.int .i32 0,.int .i32 0] 124)).drewN q)∧((w.alloc (.cells #[.int .i32 0,.int .i32 0] 124)).drewN q).heap[w.heap.size]? = some (.cells #[.int .i32 0,.int .i32 0] 124 (0,0))):=Lib.hid ⟨below_drewN H0.out.1 q,H0.out.2⟩
      generalize (w.alloc (.cells #[.int .i32 0,.int .i32 0] 124)).drewN q=w1 at H1 ⊢
      clear CC1 H0
      go_wp2_with fail
      refine (CA.out w1 (HE.out.below H1.out.1)).mono ?_
      rintro e w2 ⟨hp,hb2⟩
      have H2:=Lib.hid (show Below w.heap.size w w2∧w2.heap[w.heap.size]? = some (.cells #[.int .i32 0,.int .i32 0] 124 (0,0)) from⟨H1.out.1.trans (hb2.mono H1.out.1.size),(hb2.block _ (by have:=(Array.getElem?_eq_some_iff.1 H1.out.2).1;exact this)).trans H1.out.2⟩)
      clear hb2 H1
      rw[ho1] at hp
      obtain rfl:=hp
      go_wp2_with fail
      refine (CB.out w2 (HE.out.below H2.out.1)).mono ?_
      rintro e w3 ⟨hp,hb3⟩
      have H3:=Lib.hid (show Below w.heap.size w w3∧w3.heap[w.heap.size]? = some (.cells #[.int .i32 0,.int .i32 0] 124 (0,0)) from⟨H2.out.1.trans (hb3.mono H2.out.1.size),(hb3.block _ (by have:=(Array.getElem?_eq_some_iff.1 H2.out.2).1;exact this)).trans H2.out.2⟩)
      clear hb3 H2
      rw[ho2] at hp
      obtain⟨z2,rfl⟩:=hp
      have c0:w3.cell? ⟨w.heap.size,0,none⟩=some (.int .i32 0):=by rw[Lib.cell_of_heap H3.out.2];rfl
      have c1:w3.cell? ⟨w.heap.size,1,none⟩=some (.int .i32 0):=by rw[Lib.cell_of_heap H3.out.2];rfl
      have f0:w3.frozen? ⟨w.heap.size,0,none⟩=false:=Lib.frozen_of_heap H3.out.2 _
      have f1:w3.frozen? ⟨w.heap.size,1,none⟩=false:=Lib.frozen_of_heap H3.out.2 _
      go_wp2_with (go_at_call 123;refine (Tryz.utf8_ValidRune _ _).mono ?_;rintro e w4 ⟨rfl,rfl⟩)
      (try simp only[Exit.inBlock,Exit.then])
      refine bodyPost_ret (results_cell2 rfl _ _ w.heap.size 124 #[.int .i32 0,.int .i32 0] (0,0) _ rfl (ptwo_cells H3.out.2) Tryz.underlying124 rfl (by kernel_rfl)) rfl ?_
      rw[HX.out]
      exact⟨rfl,(H3.out.1.setCell (Nat.le_refl _) _).setCell (Nat.le_refl _) _⟩
    | some hi =>
      have hhi:=numP_le ho2
      cases v1:Lib.validRune (lo:Int)
      ·have HX:Hid (spnP l=(8,0,0)):=Lib.hid (by rw[HX1.out,ho1,ho2,spnO_some];exact if_pos (.inl v1))
       clear HX1
       go_enter Tryz.func119,Tryz.ntmps119
       go_wp2_with fail
       refine CC1.out.mono ?_
       rintro e w1 ⟨rfl,q,rfl⟩
       have H1:Hid (Below w.heap.size w ((w.alloc (.cells #[.int .i32 0,.int .i32 0] 124)).drewN q)∧((w.alloc (.cells #[.int .i32 0,.int .i32 0] 124)).drewN q).heap[w.heap.size]? = some (.cells #[.int .i32 0,.int .i32 0] 124 (0,0))):=Lib.hid ⟨below_drewN H0.out.1 q,H0.out.2⟩
       generalize (w.alloc (.cells #[.int .i32 0,.int .i32 0] 124)).drewN q=w1 at H1 ⊢
       clear CC1 H0
       go_wp2_with fail
       refine (CA.out w1 (HE.out.below H1.out.1)).mono ?_
       rintro e w2 ⟨hp,hb2⟩
       have H2:=Lib.hid (show Below w.heap.size w w2∧w2.heap[w.heap.size]? = some (.cells #[.int .i32 0,.int .i32 0] 124 (0,0)) from⟨H1.out.1.trans (hb2.mono H1.out.1.size),(hb2.block _ (by have:=(Array.getElem?_eq_some_iff.1 H1.out.2).1;exact this)).trans H1.out.2⟩)
       clear hb2 H1
       rw[ho1] at hp
       obtain rfl:=hp
       go_wp2_with fail
       refine (CB.out w2 (HE.out.below H2.out.1)).mono ?_
       rintro e w3 ⟨hp,hb3⟩
       have H3:=Lib.hid (show Below w.heap.size w w3∧w3.heap[w.heap.size]? = some (.cells #[.int .i32 0,.int .i32 0] 124 (0,0)) from⟨H2.out.1.trans (hb3.mono H2.out.1.size),(hb3.block _ (by have:=(Array.getElem?_eq_some_iff.1 H2.out.2).1;exact this)).trans H2.out.2⟩)
       clear hb3 H2
       rw[ho2] at hp
       obtain rfl:=hp
       have c0:w3.cell? ⟨w.heap.size,0,none⟩=some (.int .i32 0):=by rw[Lib.cell_of_heap H3.out.2];rfl
       have c1:w3.cell? ⟨w.heap.size,1,none⟩=some (.int .i32 0):=by rw[Lib.cell_of_heap H3.out.2];rfl
       have f0:w3.frozen? ⟨w.heap.size,0,none⟩=false:=Lib.frozen_of_heap H3.out.2 _
       have f1:w3.frozen? ⟨w.heap.size,1,none⟩=false:=Lib.frozen_of_heap H3.out.2 _
       go_wp2_with (go_at_call 123;refine (Tryz.utf8_ValidRune _ _).mono ?_;rintro e w4 ⟨rfl,rfl⟩)
       (try simp only[Exit.inBlock,Exit.then])
       refine bodyPost_ret (results_cell2 rfl _ _ w.heap.size 124 #[.int .i32 0,.int .i32 0] (0,0) _ rfl (ptwo_cells H3.out.2) Tryz.underlying124 rfl (by kernel_rfl)) rfl ?_
       rw[HX.out]
       exact⟨rfl,(H3.out.1.setCell (Nat.le_refl _) _).setCell (Nat.le_refl _) _⟩
      ·cases v2:Lib.validRune (hi:Int)
       ·have HX:Hid (spnP l=(8,0,0)):=Lib.hid (by rw[HX1.out,ho1,ho2,spnO_some];exact if_pos (.inr v2))
        clear HX1
        go_enter Tryz.func119,Tryz.ntmps119
        go_wp2_with fail
        refine CC1.out.mono ?_
        rintro e w1 ⟨rfl,q,rfl⟩
        have H1:Hid (Below w.heap.size w ((w.alloc (.cells #[.int .i32 0,.int .i32 0] 124)).drewN q)∧((w.alloc (.cells #[.int .i32 0,.int .i32 0] 124)).drewN q).heap[w.heap.size]? = some (.cells #[.int .i32 0,.int .i32 0] 124 (0,0))):=Lib.hid ⟨below_drewN H0.out.1 q,H0.out.2⟩
        generalize (w.alloc (.cells #[.int .i32 0,.int .i32 0] 124)).drewN q=w1 at H1 ⊢
        clear CC1 H0
        go_wp2_with fail
        refine (CA.out w1 (HE.out.below H1.out.1)).mono ?_
        rintro e w2 ⟨hp,hb2⟩
        have H2:=Lib.hid (show Below w.heap.size w w2∧w2.heap[w.heap.size]? = some (.cells #[.int .i32 0,.int .i32 0] 124 (0,0)) from⟨H1.out.1.trans (hb2.mono H1.out.1.size),(hb2.block _ (by have:=(Array.getElem?_eq_some_iff.1 H1.out.2).1;exact this)).trans H1.out.2⟩)
        clear hb2 H1
        rw[ho1] at hp
        obtain rfl:=hp
        go_wp2_with fail
        refine (CB.out w2 (HE.out.below H2.out.1)).mono ?_
        rintro e w3 ⟨hp,hb3⟩
        have H3:=Lib.hid (show Below w.heap.size w w3∧w3.heap[w.heap.size]? = some (.cells #[.int .i32 0,.int .i32 0] 124 (0,0)) from⟨H2.out.1.trans (hb3.mono H2.out.1.size),(hb3.block _ (by have:=(Array.getElem?_eq_some_iff.1 H2.out.2).1;exact this)).trans H2.out.2⟩)
        clear hb3 H2
        rw[ho2] at hp
        obtain rfl:=hp
        have c0:w3.cell? ⟨w.heap.size,0,none⟩=some (.int .i32 0):=by rw[Lib.cell_of_heap H3.out.2];rfl
        have c1:w3.cell? ⟨w.heap.size,1,none⟩=some (.int .i32 0):=by rw[Lib.cell_of_heap H3.out.2];rfl
        have f0:w3.frozen? ⟨w.heap.size,0,none⟩=false:=Lib.frozen_of_heap H3.out.2 _
        have f1:w3.frozen? ⟨w.heap.size,1,none⟩=false:=Lib.frozen_of_heap H3.out.2 _
        go_wp2_with (go_at_call 123;refine (Tryz.utf8_ValidRune _ _).mono ?_;rintro e w4 ⟨rfl,rfl⟩)
        (try simp only[Exit.inBlock,Exit.then])
        refine bodyPost_ret (results_cell2 rfl _ _ w.heap.size 124 #[.int .i32 0,.int .i32 0] (0,0) _ rfl (ptwo_cells H3.out.2) Tryz.underlying124 rfl (by kernel_rfl)) rfl ?_
        rw[HX.out]
        exact⟨rfl,(H3.out.1.setCell (Nat.le_refl _) _).setCell (Nat.le_refl _) _⟩
       ·have HX2:Hid (spnP l=if hi<lo then (1,0,0) else (0,lo,hi)):=Lib.hid (by rw[HX1.out,ho1,ho2,spnO_some];exact if_neg (fun e=>e.elim (fun e=>by rw[v1] at e;cases e) (fun e=>by rw[v2] at e;cases e)))
        by_cases hlt:hi<lo
        ·have HX:=Lib.hid (HX2.out.trans (if_pos hlt))
         have hltz:(hi:Int)<(lo:Int):=by omega
         clear HX1 HX2
         go_enter Tryz.func119,Tryz.ntmps119
         go_wp2_with fail
         refine CC1.out.mono ?_
         rintro e w1 ⟨rfl,q,rfl⟩
         have H1:Hid (Below w.heap.size w ((w.alloc (.cells #[.int .i32 0,.int .i32 0] 124)).drewN q)∧((w.alloc (.cells #[.int .i32 0,.int .i32 0] 124)).drewN q).heap[w.heap.size]? = some (.cells #[.int .i32 0,.int .i32 0] 124 (0,0))):=Lib.hid ⟨below_drewN H0.out.1 q,H0.out.2⟩
         generalize (w.alloc (.cells #[.int .i32 0,.int .i32 0] 124)).drewN q=w1 at H1 ⊢
         clear CC1 H0
         go_wp2_with fail
         refine (CA.out w1 (HE.out.below H1.out.1)).mono ?_
         rintro e w2 ⟨hp,hb2⟩
         have H2:=Lib.hid (show Below w.heap.size w w2∧w2.heap[w.heap.size]? = some (.cells #[.int .i32 0,.int .i32 0] 124 (0,0)) from⟨H1.out.1.trans (hb2.mono H1.out.1.size),(hb2.block _ (by have:=(Array.getElem?_eq_some_iff.1 H1.out.2).1;exact this)).trans H1.out.2⟩)
         clear hb2 H1
         rw[ho1] at hp
         obtain rfl:=hp
         go_wp2_with fail
         refine (CB.out w2 (HE.out.below H2.out.1)).mono ?_
         rintro e w3 ⟨hp,hb3⟩
         have H3:=Lib.hid (show Below w.heap.size w w3∧w3.heap[w.heap.size]? = some (.cells #[.int .i32 0,.int .i32 0] 124 (0,0)) from⟨H2.out.1.trans (hb3.mono H2.out.1.size),(hb3.block _ (by have:=(Array.getElem?_eq_some_iff.1 H2.out.2).1;exact this)).trans H2.out.2⟩)
         clear hb3 H2
         rw[ho2] at hp
         obtain rfl:=hp
         have c0:w3.cell? ⟨w.heap.size,0,none⟩=some (.int .i32 0):=by rw[Lib.cell_of_heap H3.out.2];rfl
         have c1:w3.cell? ⟨w.heap.size,1,none⟩=some (.int .i32 0):=by rw[Lib.cell_of_heap H3.out.2];rfl
         have f0:w3.frozen? ⟨w.heap.size,0,none⟩=false:=Lib.frozen_of_heap H3.out.2 _
         have f1:w3.frozen? ⟨w.heap.size,1,none⟩=false:=Lib.frozen_of_heap H3.out.2 _
         go_wp2_with (go_at_call 123;refine (Tryz.utf8_ValidRune _ _).mono ?_;rintro e w4 ⟨rfl,rfl⟩)
         (try simp only[Exit.inBlock,Exit.then])
         refine bodyPost_ret (results_cell2 rfl _ _ w.heap.size 124 #[.int .i32 0,.int .i32 0] (0,0) _ rfl (ptwo_cells H3.out.2) Tryz.underlying124 rfl (by kernel_rfl)) rfl ?_
         rw[HX.out]
         exact⟨rfl,(H3.out.1.setCell (Nat.le_refl _) _).setCell (Nat.le_refl _) _⟩
        ·have HX:=Lib.hid (HX2.out.trans (if_neg hlt))
         have hltz:(lo:Int)≤(hi:Int):=by omega
         clear HX1 HX2
         go_enter Tryz.func119,Tryz.ntmps119
         go_wp2_with fail
         refine CC1.out.mono ?_
         rintro e w1 ⟨rfl,q,rfl⟩
         have H1:Hid (Below w.heap.size w ((w.alloc (.cells #[.int .i32 0,.int .i32 0] 124)).drewN q)∧((w.alloc (.cells #[.int .i32 0,.int .i32 0] 124)).drewN q).heap[w.heap.size]? = some (.cells #[.int .i32 0,.int .i32 0] 124 (0,0))):=Lib.hid ⟨below_drewN H0.out.1 q,H0.out.2⟩
         generalize (w.alloc (.cells #[.int .i32 0,.int .i32 0] 124)).drewN q=w1 at H1 ⊢
         clear CC1 H0
         go_wp2_with fail
         refine (CA.out w1 (HE.out.below H1.out.1)).mono ?_
         rintro e w2 ⟨hp,hb2⟩
         have H2:=Lib.hid (show Below w.heap.size w w2∧w2.heap[w.heap.size]? = some (.cells #[.int .i32 0,.int .i32 0] 124 (0,0)) from⟨H1.out.1.trans (hb2.mono H1.out.1.size),(hb2.block _ (by have:=(Array.getElem?_eq_some_iff.1 H1.out.2).1;exact this)).trans H1.out.2⟩)
         clear hb2 H1
         rw[ho1] at hp
         obtain rfl:=hp
         go_wp2_with fail
         refine (CB.out w2 (HE.out.below H2.out.1)).mono ?_
         rintro e w3 ⟨hp,hb3⟩
         have H3:=Lib.hid (show Below w.heap.size w w3∧w3.heap[w.heap.size]? = some (.cells #[.int .i32 0,.int .i32 0] 124 (0,0)) from⟨H2.out.1.trans (hb3.mono H2.out.1.size),(hb3.block _ (by have:=(Array.getElem?_eq_some_iff.1 H2.out.2).1;exact this)).trans H2.out.2⟩)
         clear hb3 H2
         rw[ho2] at hp
         obtain rfl:=hp
         have c0:w3.cell? ⟨w.heap.size,0,none⟩=some (.int .i32 0):=by rw[Lib.cell_of_heap H3.out.2];rfl
         have c1:w3.cell? ⟨w.heap.size,1,none⟩=some (.int .i32 0):=by rw[Lib.cell_of_heap H3.out.2];rfl
         have f0:w3.frozen? ⟨w.heap.size,0,none⟩=false:=Lib.frozen_of_heap H3.out.2 _
         have f1:w3.frozen? ⟨w.heap.size,1,none⟩=false:=Lib.frozen_of_heap H3.out.2 _
         go_wp2_with (go_at_call 123;refine (Tryz.utf8_ValidRune _ _).mono ?_;rintro e w4 ⟨rfl,rfl⟩)
         (try simp only[Exit.inBlock,Exit.then])
         refine bodyPost_ret (results_cell2 rfl _ _ w.heap.size 124 #[.int .i32 lo,.int .i32 hi] (0,0) _ rfl (ptwo_cells H3.out.2) Tryz.underlying124 rfl (by kernel_rfl)) rfl ?_
         rw[HX.out]
         exact⟨rfl,(H3.out.1.setCell (Nat.le_refl _) _).setCell (Nat.le_refl _) _⟩
end Go.Proofs.YtgpbaeehajkebaaGreatDoor
