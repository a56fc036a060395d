import Derived.Test.YtgpbaeehajkebaaGreatDoorGv9
namespace Go.Proofs.YtgpbaeehajkebaaGreatDoor
open Go Go.RowKit Go.Lib

def Ends (s:ByteArray) (n w:Nat):Prop:=1≤w∧w≤4∧w≤n∧wideI s (n-w)=w

theorem ends_char {s:ByteArray} {n w:Nat} (hn:n≤s.size) (h:Ends s n w):CharAt w (B s (n-w)) (B s (n-w+1)) (B s (n-w+2)) (B s (n-w+3)) :=
  let ⟨h1,h4,hw,he⟩:=h
  ((wide_iff s (n-w) w (by omega) h1 h4).1 he).2
theorem ends_of_char {s:ByteArray} {n w:Nat} (hn:n≤s.size) (h1:1≤w) (h4:w≤4) (hw:w≤n) (h:CharAt w (B s (n-w)) (B s (n-w+1)) (B s (n-w+2)) (B s (n-w+3))):Ends s n w :=
  ⟨h1,h4,hw,(wide_iff s (n-w) w (by omega) h1 h4).2 ⟨by omega,h⟩⟩
theorem char_congr {w a0 a1 a2 a3 b0 b1 b2 b3:Nat} (h0:a0=b0) (h1:1<w→a1=b1) (h2:2<w→a2=b2) (h3:3<w→a3=b3) (h:CharAt w a0 a1 a2 a3):CharAt w b0 b1 b2 b3:=by
  unfold CharAt at *
  omega
theorem ends_c {s:ByteArray} {n w:Nat} (hn:n≤s.size) (h:Ends s n w):CharAt w (B s (n-w)) (B s (n-(w-1))) (B s (n-(w-2))) (B s (n-(w-3))):=by
  have hw:=h.2.2.1
  exact char_congr rfl (fun h=>congrArg (B s) (by omega)) (fun h=>congrArg (B s) (by omega)) (fun h=>congrArg (B s) (by omega)) (ends_char hn h)
theorem ends_one {s:ByteArray} {n u v:Nat} (hn:n≤s.size) (hu:Ends s n u) (hv:Ends s n v):u=v:=by
  have cu:=ends_c hn hu
  have cv:=ends_c hn hv
  obtain⟨u1,u4,un,_⟩:=hu
  obtain⟨v1,v4,vn,_⟩:=hv
  unfold CharAt at cu cv
  rcases (by omega:u=1∨u=2∨u=3∨u=4) with rfl|rfl|rfl|rfl <;>
  rcases (by omega:v=1∨v=2∨v=3∨v=4) with rfl|rfl|rfl|rfl <;>
  first|rfl|(exfalso;simp only[Nat.reduceSub] at cu cv;omega)
theorem befK_ends {s:ByteArray} {n v:Nat} (hn:n≤s.size) (h:Ends s n v):∀f k,1≤k→k≤v→v<f+k→befK s n f k=(((Utf8.decode s (n-v)).1:Int),(v:Int))
  | 0,k,_,hk,hf=>by omega
  | f+1,k,h1,hk,hf=>by
    unfold befK
    have hv4:=h.2.1
    have hvn:=h.2.2.1
    rw[if_pos (by omega)]
    by_cases c:wideI s (n-k)=k
    · obtain rfl:v=k:=ends_one hn h ⟨h1,by omega,by omega,c⟩
      rw[if_pos c]
    · rw[if_neg c]
      have:k≠v:=fun e=>c (e▸h.2.2.2)
      exact befK_ends hn h f (k+1) (by omega) (by omega) (by omega)
theorem befK_none {s:ByteArray} {n:Nat} (h:∀v,¬Ends s n v):∀f k,1≤k→befK s n f k=(65533,1)
  | 0,_,_=>rfl
  | f+1,k,h1=>by
    unfold befK
    split
    · rename_i hk
      rw[if_neg (fun c=>h k ⟨h1,hk.1,hk.2,c⟩)]
      exact befK_none h f (k+1) (by omega)
    · rfl

/-! the library's decoder of the last rune -/
def preL (s:ByteArray) (n:Nat):List UInt8:=(s.extract 0 n).data.toList
theorem size_pre (s:ByteArray) (n:Nat) (hn:n≤s.size):(s.extract 0 n).size=n:=by rw[ByteArray.size_extract];omega
theorem length_pre (s:ByteArray) (n:Nat) (hn:n≤s.size):(preL s n).length=n:=by
  have:=size_pre s n hn
  unfold preL
  simpa using this
theorem B_pre (s:ByteArray) (n k:Nat) (hn:n≤s.size) (hk:k<n):B (s.extract 0 n) k=B s k:=by
  have:=B_extract s 0 n k (by omega) hk
  simpa using this
theorem getD_pre (s:ByteArray) (n k:Nat) (hn:n≤s.size) (hk:k<n):((preL s n).getD k 0).toNat=B s k:=B_pre s n k hn hk
theorem ends_pre (s:ByteArray) (n v:Nat) (hn:n≤s.size):Ends (s.extract 0 n) n v↔Ends s n v:=by
  have hz:=size_pre s n hn
  constructor
  · intro h
    have hc:=ends_c (by omega) h
    obtain⟨h1,h4,hv,_⟩:=h
    refine ends_of_char hn h1 h4 hv (char_congr (B_pre s n _ hn (by omega)) (fun g=>?_) (fun g=>?_) (fun g=>?_) hc)
    all_goals (rw[B_pre s n _ hn (by omega)];exact congrArg (B s) (by omega))
  · intro h
    have hc:=ends_c hn h
    obtain⟨h1,h4,hv,_⟩:=h
    refine ends_of_char (by omega) h1 h4 hv (char_congr (B_pre s n _ hn (by omega)).symm (fun g=>?_) (fun g=>?_) (fun g=>?_) hc)
    all_goals (rw[B_pre s n _ hn (by omega)];exact congrArg (B s) (by omega))
theorem decode_pre (s:ByteArray) (n v:Nat) (hn:n≤s.size) (h:Ends s n v):Utf8.decode (s.extract 0 n) (n-v)=Utf8.decode s (n-v):=by
  have hz:=size_pre s n hn
  have h':=(ends_pre s n v hn).2 h
  obtain⟨h1,h4,hv,he⟩:=h
  obtain⟨_,_,_,he'⟩:=h'
  rcases unit_at s (n-v) (by omega) with ⟨q,_⟩|⟨u,_,_,_,e1,e2,e3⟩
  · omega
  rcases unit_at (s.extract 0 n) (n-v) (by omega) with ⟨q,_⟩|⟨u',_,_,_,e1',e2',e3'⟩
  · omega
  obtain rfl:u=v:=by omega
  obtain rfl:u'=u:=by omega
  refine Prod.ext ?_ (by omega)
  have:numT u' (B (s.extract 0 n) (n-u')) (B (s.extract 0 n) (n-u'+1)) (B (s.extract 0 n) (n-u'+2)) (B (s.extract 0 n) (n-u'+3))=numT u' (B s (n-u')) (B s (n-u'+1)) (B s (n-u'+2)) (B s (n-u'+3)):=by
    have e:∀j,j<u'→B (s.extract 0 n) (n-u'+j)=B s (n-u'+j):=fun j hj=>B_pre s n _ hn (by omega)
    have e0:=e 0 (by omega)
    rw[Nat.add_zero] at e0
    unfold numT
    rcases (by omega:u'=1∨u'=2∨u'=3∨u'=4) with h|h|h|h
    · subst h;simp[e0]
    · subst h;simp[e0,e 1 (by omega)]
    · subst h;simp[e0,e 1 (by omega),e 2 (by omega)]
    · subst h;simp[e0,e 1 (by omega),e 2 (by omega),e 3 (by omega)]
  omega
theorem lastStart_ends (s:ByteArray) (n u:Nat) (hn:n≤s.size) (h:Ends s n u) (h2:2≤u):lastStart (preL s n)=n-u:=by
  have hc:=ends_c hn h
  obtain⟨h1,h4,hu,_⟩:=h
  unfold lastStart
  simp only[length_pre s n hn,runeStartB,bne_iff_ne,ne_eq]
  rcases (by omega:u=2∨u=3∨u=4) with rfl|rfl|rfl
  all_goals
    unfold CharAt at hc
    simp only[Nat.reduceSub] at hc
  · rw[if_neg (by omega),getD_pre s n _ hn (by omega),if_pos (by omega)]
  · rw[if_neg (by omega),getD_pre s n _ hn (by omega),if_neg (by omega),if_neg (by omega),getD_pre s n _ hn (by omega),if_pos (by omega)]
  · rw[if_neg (by omega),getD_pre s n _ hn (by omega),if_neg (by omega),if_neg (by omega),getD_pre s n _ hn (by omega),if_neg (by omega),if_neg (by omega),getD_pre s n _ hn (by omega),if_pos (by omega)]
theorem lastStart_lt1 (s:ByteArray) (n:Nat) (hn:n≤s.size) (h1:1≤n):lastStart (preL s n)<n∧(lastStart (preL s n)+1=n→n=1)∧n≤lastStart (preL s n)+5:=by
  unfold lastStart
  simp only[length_pre s n hn]
  repeat' split
  all_goals omega
theorem last_bef (s:ByteArray) (n:Nat) (hn:n≤s.size) (h1:1≤n) :
    (((decodeLastL (preL s n)).1:Int),((decodeLastL (preL s n)).2:Int))=befK s n 5 1:=by
  have hl:=length_pre s n hn
  have hne:preL s n≠[]:=fun e=>by rw[e] at hl;simp at hl;omega
  have hz:=size_pre s n hn
  unfold decodeLastL
  rw[if_neg hne,hl,getD_pre s n _ hn (by omega)]
  by_cases ha:B s (n-1)<128
  · rw[if_pos ha]
    have he:Ends s n 1:=ends_of_char hn (by omega) (by omega) h1 (.inl ⟨rfl,ha⟩)
    rw[befK_ends hn he 5 1 (by omega) (by omega) (by omega)]
    rcases unit_at s (n-1) (by omega) with ⟨q,_⟩|⟨u,_,_,_,e1,e2,e3⟩
    · have:=he.2.2.2;omega
    · have:=he.2.2.2
      obtain rfl:u=1:=by omega
      rw[e3];simp[numT]
  · rw[if_neg ha]
    obtain⟨hs1,hs2,hs3⟩:=lastStart_lt1 s n hn h1
    have hd:decodeL ((preL s n).drop (lastStart (preL s n)))=Utf8.decode (s.extract 0 n) (lastStart (preL s n)):=decodeL_drop _ _
    simp only[hd]
    have no1:¬Ends s n 1:=fun h=>by have:=ends_c hn h;unfold CharAt at this;simp only[Nat.reduceSub] at this;omega
    have two:∀u,Ends s n u→2≤u:=fun u h=>by
      have:=h.1
      rcases (by omega:u=1∨2≤u) with rfl|h'
      · exact absurd h no1
      · exact h'
    generalize hst:lastStart (preL s n)=st at *
    rcases decode_wide (s.extract 0 n) st (by omega) with ⟨e0,ed⟩|⟨v,v1,v4,hv,ev,ed⟩
    · have none':∀u,¬Ends s n u:=fun u h=>by
        have hu:=two u h
        have e1:=lastStart_ends s n u hn h hu
        have h':=((ends_pre s n u hn).2 h).2.2.2
        rw[←e1,hst] at h'
        have:=h.1
        omega
      rw[befK_none none' 5 1 (by omega),ed]
      split <;> rfl
    · by_cases hsum:st+v=n
      · have hE:Ends s n v:=(ends_pre s n v hn).1 ⟨v1,v4,by omega,by rw[show n-v=st by omega];exact ev⟩
        rw[if_pos (by omega),befK_ends hn hE 5 1 (by omega) (by omega) (by omega),←decode_pre s n v hn hE,show n-v=st by omega,ed]
      · have none':∀u,¬Ends s n u:=fun u h=>by
          have hu:=two u h
          have e1:=lastStart_ends s n u hn h hu
          have h':=((ends_pre s n u hn).2 h).2.2.2
          rw[←e1,hst] at h'
          have:=h.1
          have:=h.2.2.1
          omega
        rw[if_neg (by omega),befK_none none' 5 1 (by omega)]
        rfl
end Go.Proofs.YtgpbaeehajkebaaGreatDoor
