/- MERGED for a claim. -/
import Derived.Test.YtecladbckadijaaGreatDoorMacM
set_option linter.unusedVariables false
set_option linter.unusedSimpArgs false
set_option maxRecDepth 100000
set_option maxHeartbeats 16000000
namespace Go.Proofs.YtecladbckadijaaGreatDoor
open Go.Lib (hid)
section
open Go.RowKit Mac

section
variable {X:Cx} {K K':Kn} {vr vw:Value} {cs:List Nat} {w w':World} {S:Mc} {D N:Nat} {s:ByteArray} {T:Pat} {H:Nat→Nat→Prop} {Wq:List Nat} {i:Nat} {p:Pl}
structure First (T:Pat) (H:Nat→Nat→Prop) (S:Mc):Prop where
 beg:Beg H S
 pl:∃p,S.pl[0]? =some p∧p.t=T∧p.nx=0
theorem First.vst {S S':Mc}(h:First T H S)(hv:Vst S S'):First T H S':=by
 obtain⟨p,h1,h2,h3⟩:=h.pl
 obtain⟨p',g1,g2,g3⟩:=hv.ext 0 p h1
 refine⟨?_,p',g1,g2.trans h2,g3.trans h3⟩
 rcases h.beg with h4|⟨h4,h5⟩
 ·exact .inl h4
 ·exact .inr ⟨hv.pos.trans h4,hv.kept _ h5⟩
def RunI (X:Cx)(s:ByteArray)(D N:Nat)(T:Pat)(w':World)(k:Nat)(n:Nat):Prop:=∃H K' vr' vw' cs' S',Rep X K' vr' vw' cs' w' S'∧Inv s D N T H none [] S'∧First T H S'∧S'.reached=[]∧S'.pos=k∧S'.waiting.length=n
def TakeI (X:Cx)(s:ByteArray)(D N:Nat)(T:Pat)(vw:Value)(cs:List Nat)(W:List Nat)(pos:Nat)(k:Nat)(w':World):Prop:=∃H K' vr' S',Rep X K' vr' vw cs w' { S' with waiting:=W }∧Inv s D N T H none (W.drop k) S'∧First T H S'∧S'.waiting=[]∧S'.pos=pos+1∧(∀i,i∈W→∃p,S'.pl[i]? =some p∧p.t.x.op=1∧(ChAt s p.t.x.text pos→p.nx≤S'.pl.length∧Mac.GoodM s D T S'.pl p.nx (pos+1)))
theorem call_wait (S:Mc)(r:Nat)(W:List Nat):call { S with waiting:=W } r={ call S r with waiting:=W }:=by
 cases r with
 | zero=>rfl
 | succ i =>
  simp only [call]
  cases S.pl[i]? with
  | none=>rfl
  | some p=>by_cases h:p.vis<S.pos<;>simp [h]
theorem takeI_step {W:List Nat}{pos k:Nat}{wr:World}(h:TakeI X s D N T vw cs W pos k wr)(hk:k<W.length)(hs:pos<s.size)(hN:N≤2147483647):∃c,wr.cell? ⟨0,0,none⟩=wr.cell? ⟨0,0,none⟩∧(∃hc:k<cs.length,cs[k]=c)∧Calls Tryz.prog 176 #[.int .u8 s[pos].toNat,ptr (c+1),ptr (c+2)] wr fun e w'=>e=.returned (.tuple #[])∧Hid (TakeI X s D N T vw cs W pos (k+1) w'):=by
 obtain⟨H,K',vr',S',hR,hI,hF,hw,hp,hW⟩:=h
 have hcl:=hR.cl
 have hkc:k<cs.length:=by rw [hcl];exact hk
 obtain⟨p,hpl,htk⟩:=hR.cw k hkc hk
 have hbd:S'.reached.length+1≤2147483648:=by
  have h1:=hI.cnt;have h2:=hI.tot
  simp at h1;omega
 refine⟨cs[k],rfl,⟨hkc,rfl⟩,(take_any hR (p:=p) (List.mem_of_getElem? hpl) htk s[pos] hbd).mono ?_⟩
 obtain⟨p',hp1,hp2,hp3⟩:=hW W[k] (List.getElem_mem hk)
 have epp:p'=p:=by have:=hp1.symm.trans hpl;cases this;rfl
 subst epp
 have hdrop:W.drop k=W[k]::W.drop (k+1):=List.drop_eq_getElem_cons hk
 rw [hdrop]at hI
 rintro e w' ⟨rfl,⟨hx,vr2,hR2⟩|⟨hx,hR2⟩⟩
 ·have hch:ChAt s p'.t.x.text pos:=⟨hs,hx⟩
  obtain⟨h1,h2⟩:=hp3 hch
  have hgood:Mac.GoodM s D T S'.pl p'.nx S'.pos:=by rw [hp];exact h2
  obtain⟨I2,hc2,st⟩:=inv_call hI h1 hgood
  obtain⟨p2,g1,g2,g3⟩:=st.ext _ _ hp1
  rw [call_wait]at hR2
  refine⟨rfl,hid ⟨H,K',vr2,call S' p'.nx,hR2,inv_drop I2 g1 (fun _ _ _=>by rw [g3];exact hc2),hF.vst (stp_vst st),by rw [st.wait];exact hw,by rw [st.pos];exact hp,fun i hi=>?_⟩⟩
  obtain⟨q,q1,q2,q3⟩:=hW i hi
  obtain⟨q',r1,r2,r3⟩:=st.ext i q q1
  refine⟨q',r1,by rw [r2];exact q2,fun hc=>?_⟩
  rw [r2]at hc
  obtain⟨q4,q5⟩:=q3 hc
  rw [r3,st.len]
  exact⟨q4,fun j hj=>q5 j (hj.back hI.ord st.ext q4)⟩
 ·refine⟨rfl,hid ⟨H,K',vr',S',hR2,inv_drop hI hp1 (fun j hj hc=>?_),hF,hw,hp,hW⟩⟩
  have:j=pos:=by omega
  subst this
  exact absurd hc.2 hx
theorem rowV_zero {E B:Nat}{n c:Nat}{A:Option Addr}{l:List Value}(h:RowV E B w (.slice A n c) l):RowV E B w (.slice A 0 c) []:=by
 rcases h.2 with ⟨h0,_⟩|⟨g,cap,cur,hv,hB,hg,h3,h4,h5,h6⟩
 ·cases h0;exact⟨by simp,.inl ⟨rfl,rfl⟩⟩
 ·cases hv;exact⟨by simp,.inr ⟨g,c,cur,rfl,hB,hg,Nat.zero_le _,h4,h5,by simp⟩⟩
theorem takeI_zero {k n:Nat}{wr:World}(h:RunI X s D N T wr k n)(hk:k<s.size):∃(A:Option Addr) (c:Nat) (cs W:List Nat),wr.cell? ⟨X.m,0,none⟩=some (.int .i64 k)∧wr.cell? ⟨X.m,2,none⟩=some (.slice A n c)∧wr.frozen? ⟨X.m,0,none⟩=false∧W.length=n∧n≤2147483647+N∧Hid (TakeI X s D N T (.slice A n c) cs W k 0 (wr.setCell ⟨X.m,0,none⟩ (.int .i64 ((k:Int)+1)))):=by
 obtain⟨H,K',vr',vw',cs',S',hR,hI,hF,hr,hp,hn⟩:=h
 obtain⟨⟨m0,_,m2⟩,fm⟩:=hR.cells
 obtain⟨A,c,hv⟩:∃A c,vw'=.slice A n c:=by
  rcases RowR.form hR.rw with ⟨h1,h2⟩|⟨g,c,h1,_⟩
  ·have:cs'.length=0:=by have:=congrArg List.length h2;simpa using this
   have:n=0:=by rw [←hn,←hR.cl];exact this
   exact⟨none,0,by rw [h1,this]⟩
  ·exact⟨_,c,by rw [h1,List.length_map,hR.cl,hn]⟩
 subst hv
 rw [hp]at m0
 have hbd:n≤2147483647+N:=by
  have h1:=hI.cnt;have h2:=hI.tot
  simp at h1;omega
 refine⟨A,c,cs',S'.waiting,m0,m2,fm 0,hn,hbd,hid ⟨_,K',vr',_,?_,inv_next hI hr (by omega),?_,rfl,by show S'.pos+1=k+1;omega,fun i hi=>?_⟩⟩
 ·have:=hR.setPos (k+1)
  rw [show(((k+1:Nat):Int))=(k:Int)+1 by omega]at this
  have e:({ ({ S' with waiting:=[],pos:=S'.pos+1 }:Mc)with waiting:=S'.waiting }:Mc)={ S' with pos:=k+1 }:=by rw [←hp]
  rw [e];exact this
 ·refine⟨.inl ?_,hF.pl⟩
  rcases hF.beg with h4|⟨h4,h5⟩
  ·exact .inl h4
  ·exact .inr ⟨h4.symm,h5⟩
 ·obtain⟨p,h1,h2,h3⟩:=hI.wt i hi
  refine⟨p,h1,h2,fun hc=>⟨?_,fun j hj=>?_⟩⟩
  ·have:=hI.ord i p h1
   have:=(List.getElem?_eq_some_iff.1 h1).1
   show p.nx≤S'.pl.length
   omega
  ·rw [hp]at h3
   exact h3 j (sound_wait h1 (hI.deep i p h1).2 (hI.deep i p h1).1 h2 hc hj)
theorem takeI_cells {A:Option Addr}{n c:Nat}{cs W:List Nat}{pos k:Nat}{wr:World}(h:TakeI X s D N T (.slice A n c) cs W pos k wr):(wr.cell? ⟨X.m,2,none⟩=some (.slice A n c)∧wr.frozen? ⟨X.m,2,none⟩=false)∧∀(hk:k<cs.length),∃g,A=some ⟨g,0,none⟩∧wr.cell? ⟨g,k,none⟩=some (takeV cs[k]):=by
 obtain⟨H,K',vr',S',hR,_⟩:=h
 obtain⟨⟨_,_,m2⟩,fm⟩:=hR.cells
 refine⟨⟨m2,fm 2⟩,fun hk=>?_⟩
 rcases RowR.form hR.rw with ⟨_,h2⟩|⟨g,c',h1,_⟩
 ·have:=congrArg List.length h2;simp at this;rw [this]at hk;simp at hk
 ·cases h1
  refine⟨g,rfl,?_⟩
  have:=RowR.cell (enc:=fun u:Value=>[u]) (z:=1) (fun _=>rfl) hR.rw (i:=k) (by simpa using hk) (j:=0) (x:=takeV cs[k]) (by simp)
  simpa using this
theorem takeI_end {A:Option Addr}{n c:Nat}{cs W:List Nat}{pos:Nat}{wr:World}(h:TakeI X s D N T (.slice A n c) cs W pos n wr)(hn:W.length=n)(hN:N≤2147483647):
  Calls Tryz.prog 136 #[ptr X.m] (wr.setCell ⟨X.m,2,none⟩ (.slice A 0 c)) fun e w'=>e=.returned (.tuple #[])∧∃n',Hid (RunI X s D N T w' (pos+1) n'):=by
 obtain⟨H,K',vr',S',hR,hI,hF,hw,hp,hW⟩:=h
 rw [List.drop_of_length_le (by omega)]at hI
 have hR2:=hR.setWaiting (w1:=wr) (v':=.slice A 0 c) (W:=[]) (cs':=[]) (World.grownBy.refl _ _) (rowV_zero hR.rw) (fun g e=>.inl (by
  cases A with
  | none=>cases e
  | some a=>exact e)) rfl (fun q h1=>absurd h1 (by simp))
 have e:({ ({ S' with waiting:=W }:Mc)with waiting:=[] }:Mc)=S':=by rw [←hw]
 rw [e]at hR2
 refine(reach_any hR2 hI hN).mono ?_
 rintro e w' ⟨rfl,K2,vr2,vw2,cs2,S2,hR3,hI3,hV3,hr3⟩
 exact⟨rfl,S2.waiting.length,hid ⟨H,K2,vr2,vw2,cs2,S2,hR3,hI3,hF.vst hV3,hr3,by rw [hV3.pos];exact hp,rfl⟩⟩
def RunP (X:Cx)(s:ByteArray)(D:Nat)(T:Pat)(e:Ending)(w':World):Prop:=e=.returned (.tuple #[])∧∃K' vr' vw' cs' S',Rep X K' vr' vw' cs' w' S'∧(S'.en=s.size↔Mt s D T 0 s.size)
theorem runI_end {k n:Nat}{wr:World}(h:RunI X s D N T wr k n)(he:k=s.size∨n=0):RunP X s D T (.returned (.tuple #[])) wr:=by
 obtain⟨H,K',vr',vw',cs',S',hR,hI,hF,hr,hp,hn⟩:=h
 obtain⟨p,p1,p2,p3⟩:=hF.pl
 exact⟨rfl,K',vr',vw',cs',S',hR,inv_end hI hF.beg hr (by
  rcases he with he|he
  ·exact .inl (by omega)
  ·exact .inr (List.length_eq_zero_iff.1 (by omega))) p1 p2 p3⟩
theorem run_any {b:Nat}{t:Pat}{e:Nat}{r:PatR}(h:Rep X K vr vw cs w ⟨[⟨t,e,r,0,b,-1,none⟩],[],[],0,-1⟩)(hd:DeepL e t.kids)(he:e≤D)(hcnt:1+cntL e t.kids≤N)(hN:N≤2147483647)(hs:s.size≤4611686018427387904):
  Calls Tryz.prog 118 #[ptr X.m,placeV b,.string s] w (RunP X s D t):=by
 have I0:=inv_zero (s:=s) (D:=D) (N:=N) (t:=t) (e:=e) (r:=r) (b:=b) hd he hcnt
 have hc1:=place_any h (j:=0) (p:=⟨t,e,r,0,b,-1,none⟩) rfl (by simp)
 have hin:=inv_call I0 (r:=1) (by simp) (good_zero (s:=s) (D:=D))
 have HC1:=hid hc1
 have HREACH:Hid (∀w1 vr1,Rep X K vr1 vw cs w1 (call ⟨[⟨t,e,r,0,b,-1,none⟩],[],[],0,-1⟩ 1)→Calls Tryz.prog 136 #[ptr X.m] w1 fun e w'=>e=.returned (.tuple #[])∧∃n',Hid (RunI X s D N t w' 0 n')):=hid fun w1 vr1 hR1=>by
  obtain⟨I1,hcd,st⟩:=hin
  refine(reach_any hR1 I1 hN).mono ?_
  rintro e w' ⟨rfl,K2,vr2,vw2,cs2,S2,hR3,hI3,hV3,hr3⟩
  have hF1:First t (fun _ _=>False) (call ⟨[⟨t,e,r,0,b,-1,none⟩],[],[],0,-1⟩ 1):=by
   obtain⟨p,p1,p2,p3⟩:=st.ext 0 ⟨t,e,r,0,b,-1,none⟩ rfl
   exact⟨.inr ⟨st.pos,hcd⟩,p,p1,p2,p3⟩
  exact⟨rfl,S2.waiting.length,hid ⟨_,K2,vr2,vw2,cs2,S2,hR3,hI3,hF1.vst hV3,hr3,hV3.pos.trans st.pos,rfl⟩⟩
 have HCELL:Hid (∀k n wr,RunI X s D N t wr k n→k≤s.size∧wr.cell? ⟨X.m,0,none⟩=some (.int .i64 k)∧(∃A c,wr.cell? ⟨X.m,2,none⟩=some (.slice A n c))):=hid fun k n wr hh=>by
  obtain⟨H,K',vr',vw',cs',S',hR,hI,hF,hr,hp,hn⟩:=hh
  obtain⟨⟨m0,_,m2⟩,fm⟩:=hR.cells
  refine⟨by have:=hI.ple;omega,by rw [hp]at m0;exact m0,?_⟩
  rcases RowR.form hR.rw with ⟨h1,h2⟩|⟨g,c,h1,_⟩
  ·have:cs'.length=0:=by have:=congrArg List.length h2;simpa using this
   have:n=0:=by rw [←hn,←hR.cl];exact this
   exact⟨none,0,by rw [m2,h1,this]⟩
  ·exact⟨_,c,by rw [m2,h1,List.length_map,hR.cl,hn]⟩
 clear h I0 hc1 hin hd he hcnt
 go_enter Tryz.func118,Tryz.ntmps118
 go_wp2_with fail
 refine HC1.out.mono ?_
 rintro e1 w1 ⟨rfl,vr1,hR1⟩
 have HR1:=hid (HREACH.out w1 vr1 hR1)
 clear hR1 HREACH HC1
 go_wp2_with fail
 refine HR1.out.mono ?_
 rintro e2 w2 ⟨rfl,n0,HI0⟩
 clear HR1
 go_wp2
 go_loopg [] (s.size) (fun G wr=>∃k n,G+k=s.size∧Hid (RunI X s D N t wr k n))
 case atStart=>exact⟨0,n0,by omega,HI0⟩
 case round=>
  clear HI0
  obtain⟨k,n,hG,HI⟩:=hrel
  obtain⟨hks,c0,A,c,c2⟩:=HCELL.out k n wr HI.out
  by_cases hlt:k<s.size
  ·have q1:decide ((k:Int)<(s.size:Int))=true:=by simp;omega
   have q2:(k:Int)<(s.size:Int):=by omega
   by_cases hn0:n=0
   ·subst hn0
    have HF:=hid (runI_end HI.out (.inr rfl))
    clear HI HCELL
    go_wp2
    go_end0
    exact HF.out
   ·have hn1:0<n:=by omega
    have hn2:(0:Int)<(n:Int):=by omega
    obtain⟨A',c',cs2,W,d0,d2,df,hWn,hnb,HT⟩:=takeI_zero HI.out hlt
    rw [c2]at d2
    cases d2
    have HWN:=hid hWn
    have hk9:(k:Int)+1≤9223372036854775807:=by omega
    have HS:=hid hlt
    have HGK:Hid (gk+k=s.size):=hid hG
    clear HI hWn hG
    go_wp2
    obtain⟨G1,hG1⟩:∃G1,G1=gk:=⟨_,rfl⟩
    rw [←hG1]at HGK
    go_loopw [46] (fun i wr=>∃q:Nat,q≤n∧i=.int .i64 q∧Hid (TakeI X s D N t (.slice A n c) cs2 W k q wr)) (fun i _=>n-(intOf i).toNat)
    case atStart=>exact⟨0,Nat.zero_le _,rfl,HT⟩
    case round=>
     clear HT
     obtain⟨q,hq,rfl,HT⟩:=hrel
     by_cases hqn:q<n
     ·have hqw:q<W.length:=by rw [HWN.out];exact hqn
      obtain⟨cq,_,⟨hqc,hcq⟩,hcall⟩:=takeI_step HT.out hqw HS.out hN
      obtain⟨g,rfl,hcell⟩:=(takeI_cells HT.out).2 hqc
      rw [hcq]at hcell
      have HC:=hid hcall
      clear hcall HT hcq hqc hqw
      go_wp2_with fail
      refine HC.out.mono ?_
      rintro e5 w5 ⟨rfl,HT5⟩
      clear HC hcell
      go_wp2
      go_roundw
      case rel=>exact⟨q+1,by omega,by go_num,HT5⟩
      case measure=>simp [intOf];omega
     ·have hqe:q=n:=by omega
      subst hqe
      obtain⟨m2,f2⟩:=(takeI_cells HT.out).1
      have HC:=hid (takeI_end HT.out HWN.out hN)
      clear HT
      go_wp2_with fail
      refine HC.out.mono ?_
      rintro e5 w5 ⟨rfl,n',HR5⟩
      clear HC m2 f2
      go_wp2
      go_roundg (s.size-(k+1))
      case rel=>exact⟨k+1,n',by omega,HR5⟩
      case measure=>have:=HGK.out;omega
  ·have hks':k=s.size:=by omega
   have q1:decide ((k:Int)<(s.size:Int))=false:=by simp;omega
   have HF:=hid (runI_end HI.out (.inl hks'))
   clear HI HCELL hks'
   go_wp2
   go_end0
   exact HF.out
end
end
section
open Go.RowKit Mac

theorem imatch (s:ByteArray)(hs:s.size≤4611686018427387904)(d:Nat)(r:PatR)(t:Pat)(w:World)(hr:RdN patK d w r t)(hf:TxFit d t.kids)(ht:t.x.text.size≤9223372036854775807)(hcnt:1+cntL d t.kids≤2147483647):
  Calls Tryz.prog 94 #[.agg #[.int .i64 r.op,.string r.text,r.kv],.string s] w fun e w'=>∃b:Bool,e=.returned (.bool b)∧Hid (b=true↔Mt s d t 0 s.size)∧Below w.heap.size w w':=by
 obtain⟨A,cap,hkv⟩:=hr.2.form
 obtain⟨op,text,kv⟩:=r
 obtain rfl:kv=.slice A t.kids.length cap:=hkv
 obtain⟨X,hX⟩:∃X:Cx,X=⟨w,w.heap.size+1,w.heap.size+3,w.heap.size+2⟩:=⟨_,rfl⟩
 have x0:X.w0=w:=by rw [hX]
 have xm:X.m=w.heap.size+1:=by rw [hX]
 have xe:X.e=w.heap.size+3:=by rw [hX]
 have xv:X.mv=w.heap.size+2:=by rw [hX]
 obtain⟨n,hn⟩:∃n,n=t.kids.length:=⟨_,rfl⟩
 have hr':RdN patK d X.w0 ⟨op,text,.slice A t.kids.length cap⟩ t:=by rw [x0];exact hr
 rw [←hn]at hr' ⊢
 have HDEEP:=hid (rd_deep hr.2)
 have HREST:=hid (And.intro ht (And.intro hf hcnt))
 obtain⟨W0,hW0⟩:∃W0,W0=((((w.alloc (.cells #[.int .i64 op,.string text,.slice A n cap] 92)).alloc (.cells #[.int .i64 0,.slice none 0 0,.slice none 0 0] tS)).alloc (bx (ptr (w.heap.size+1)) tM)).alloc (bx (.int .i64 (-1)) 3)):=⟨_,rfl⟩
 have hz0:W0.heap.size=w.heap.size+4:=by rw [hW0];simp
 have hB0:Below w.heap.size w W0:=by rw [hW0];exact below_al (below_al (below_al (below_al (Below.refl _ _) _) _) _) _
 have hRep:Rep X (fun x=>if x=w.heap.size+2 then some (bx (ptr X.m) tM)else none) (.slice none 0 0) (.slice none 0 0) [] W0 ⟨[],[],[],0,-1⟩:=by
  have nilrow:∀E:Nat,RowV E X.w0.heap.size W0 (.slice none 0 0) []:=fun E=>⟨by simp,.inl ⟨rfl,rfl⟩⟩
  refine⟨⟨by rw [x0,xm];omega,by rw [xm,xe];omega,if_neg (by omega),if_neg (by omega),fun p hp=>(List.not_mem_nil hp).elim,fun p hp=>(List.not_mem_nil hp).elim,fun i j p q hp=>(by simp at hp),fun g hg=>(by cases hg),fun g hg=>(by cases hg)⟩,by rw [x0];exact hB0,fun b o hb=>?_,?_,?_,by rw [xv];exact if_pos rfl,nilrow _,nilrow _,rfl,fun q hq=>absurd hq (by simp),fun p hp=>(List.not_mem_nil hp).elim,fun p hp=>(List.not_mem_nil hp).elim,fun p hp=>(List.not_mem_nil hp).elim,fun p hp=>(List.not_mem_nil hp).elim,fun i hi=>(List.not_mem_nil hi).elim,fun b o hb=>?_⟩
  ·split at hb
   ·rename_i e;cases hb;rw [e,hW0,xm,Below.heap_alloc _ _ _ (by simp)];exact alloc_new_at _ _ (by simp)
   ·cases hb
  ·rw [xm,hW0,Below.heap_alloc _ _ _ (by simp),Below.heap_alloc _ _ _ (by simp)];exact alloc_new_at _ _ (by simp)
  ·rw [xe,hW0];exact alloc_new_at _ _ (by simp)
  ·split at hb
   ·cases hb;rfl
   ·cases hb
 have hbf:=before_any hRep (t:=t) (e:=d) (r:=⟨op,text,.slice A n cap⟩) (nx:=0) (Nat.zero_le _) ⟨hr',ht,hf⟩
 have e0:refV X ([]:List Pl) 0=.func (.func 117) #[] #[ptr (w.heap.size+2),ptr (w.heap.size+3)]:=by rw [hX];rfl
 have HBF:Hid (Calls Tryz.prog 116 #[ptr (w.heap.size+1),.agg #[.int .i64 op,.string text,.slice A n cap],.func (.func 117) #[] #[ptr (w.heap.size+2),ptr (w.heap.size+3)]] W0 fun e w1=>e=.returned (placeV (w.heap.size+4))∧Hid (∃K',Rep X K' (.slice none 0 0) (.slice none 0 0) [] w1 ⟨[⟨t,d,⟨op,text,.slice A n cap⟩,0,w.heap.size+4,-1,none⟩],[],[],0,-1⟩)):=hid (by
  rw [show refV X (({ pl:=[],reached:=[],waiting:=[],pos:=0,en:=-1 }:Mc).pl) 0=refV X ([]:List Pl) 0 from rfl,e0,xm,hz0]at hbf
  refine hbf.mono ?_
  rintro e w1 ⟨rfl,K',_,_,hR,_⟩
  exact⟨rfl,hid ⟨K',hR⟩⟩)
 have HRUN:Hid (∀K' w1,Rep X K' (.slice none 0 0) (.slice none 0 0) [] w1 ⟨[⟨t,d,⟨op,text,.slice A n cap⟩,0,w.heap.size+4,-1,none⟩],[],[],0,-1⟩→Calls Tryz.prog 118 #[ptr (w.heap.size+1),placeV (w.heap.size+4),.string s] w1 fun e w2=>e=.returned (.tuple #[])∧∃en:Int,w2.cell? ⟨w.heap.size+3,0,none⟩=some (.int .i64 en)∧Hid (en=s.size↔Mt s d t 0 s.size)∧Hid (Below w.heap.size w w2)):=hid fun K' w1 hR=>by
  have:=run_any (s:=s) (D:=d) (N:=2147483647) hR HDEEP.out (Nat.le_refl _) HREST.out.2.2 (Nat.le_refl _) hs
  rw [xm]at this
  refine this.mono ?_
  rintro e w2 ⟨rfl,K2,vr2,vw2,cs2,S2,hR2,hiff⟩
  have hc:=cell_of_one hR2.he
  rw [xe]at hc
  have hb:=hR2.bel
  rw [x0]at hb
  exact⟨rfl,S2.en,hc,hid hiff,hid hb⟩
 have HRD:Hid (∀K' w1,Rep X K' (.slice none 0 0) (.slice none 0 0) [] w1 ⟨[⟨t,d,⟨op,text,.slice A n cap⟩,0,w.heap.size+4,-1,none⟩],[],[],0,-1⟩→w1.cell? ⟨w.heap.size+2,0,none⟩=some (ptr (w.heap.size+1))):=hid fun K' w1 hR=>by
  have:=cell_of_one (hR.hk _ _ hR.hv)
  rw [xv,xm]at this;exact this
 rw [hW0]at HBF
 clear hr hf ht hcnt hX x0 xm xe xv hn hr' HDEEP HREST hW0 hz0 hB0 hRep hbf e0
 go_enter Tryz.func94,Tryz.ntmps94
 go_wp2_with fail
 refine HBF.out.mono ?_
 rintro e w1 ⟨rfl,HK⟩
 obtain⟨K',hR⟩:=HK.out
 have c1:=HRD.out K' w1 hR
 have HC:=hid (HRUN.out K' w1 hR)
 clear hR HK HRUN HRD HBF
 go_wp2_with fail
 refine HC.out.mono ?_
 rintro e w2 ⟨rfl,en,hc,HI,HB⟩
 have HE:Hid ((en==s.size)=true↔Mt s d t 0 s.size):=hid (by rw [←HI.out];simp)
 clear HC c1 HI
 go_wp2
 go_ret
 exact⟨_,rfl,HE,HB.out⟩
end
section
open Go.RowKit

theorem smatch (s:ByteArray)(hs:s.size≤1048576)(d:Nat)(r:PatR)(t:Pat)(w:World)(hr:RdN patK d w r t)(hf:TxFit d t.kids)(ht:t.x.text.size≤9223372036854775807):
  Calls Tryz.prog 58 #[.agg #[.int .i64 r.op,.string r.text,r.kv],.string s] w fun e w'=>∃b:Bool,e=.returned (.bool b)∧Hid (b=true↔Mt s d t 0 s.size)∧Below w.heap.size w w':=by
 obtain⟨i0,hi0,hz0,hz1,hz2⟩:=info_parts infoBool
 obtain⟨n1,hn1⟩:∃n1,n1=s.size+1:=⟨_,rfl⟩
 have hnz:(s.size:Int)+1=(n1:Int):=by omega
 have hn9:n1≤1048577:=by omega
 have hs9:s.size≤9223372036854775807:=by omega
 have HN1:=hid hn1
 have hn0:0<n1:=by omega
 have hsn:(s.size:Int)<(n1:Int):=by omega
 have hnp:(0:Int)<(n1:Int):=by omega
 have hb2:i0.bytes*n1≤281474976710656:=by rw [hz2];omega
 have hb3:n1≤maxLen:=by unfold maxLen;omega
 have HE:=hid (ends_tree s hs d)
 have HR0:=hid hr
 have HF:=hid hf
 have HT:=hid ht
 clear hz2 hn1 hr hf ht
 have HSZ:Hid (∀o:Obj,(w.alloc o).heap.size=w.heap.size+1):=hid (fun o=>by simp)
 go_enter Tryz.func58,Tryz.ntmps58
 go_wp2_with (first
  |(at_make;go_loud (refine wpList_make_full _ rfl _ _ 136 rfl (w.heap.size+1) 4 i0 (.bool false) 1 Tryz.underlying136 hi0 hz0 hz1 _ _ _ _ n1 rfl rfl (by first | rfl | exact hnz) (by first | rfl | exact hnz) hb2 hb3 (by simp) ?_);intro w1 hown1 hg1;have hbel1:Below w.heap.size w w1:=(below_al (Below.refl _ _) _).grown hg1 (by simp) (by simp);have hq1:w1.heap[w.heap.size]? =some (.cells #[.int .i64 r.op,.string r.text,r.kv] 92 (0,0)):=(hg1.block _ (by simp) (by simp)).trans (heap_alloc_new w _);have HQ1:=hid hq1;have c0:w1.cell? ⟨w.heap.size,0,none⟩=some (.int .i64 r.op):=(by rw [cell_of_row _ w.heap.size 0 _ _ _ hq1];rfl);have c1:w1.cell? ⟨w.heap.size,1,none⟩=some (.string r.text):=(by rw [cell_of_row _ w.heap.size 1 _ _ _ hq1];rfl);have c2:w1.cell? ⟨w.heap.size,2,none⟩=some r.kv:=(by rw [cell_of_row _ w.heap.size 2 _ _ _ hq1];rfl);have hrow1:RowB (w.heap.size+1) w1 (.slice (some ⟨w.heap.size+1,0,none⟩) n1 n1) (List.replicate n1 false):=(by have h:=rowB_made hown1;rw [HSZ.out]at h;exact h);have hlt:0<(List.replicate n1 false).length:=(by rw [List.length_replicate];exact hn0);have hfz:=RowR.frozen hrow1 0;have hcell:w1.cell? ⟨w.heap.size+1,0,none⟩=some (.bool false):=(by have h:=RowB.at hrow1 hlt;rw [List.getElem_replicate]at h;exact h);have HPUT:=hid (RowB.put hrow1 hlt true);clear hown1 hrow1 hlt hq1 hg1)
  |(go_at_call 96;go_loud (refine(HE.out r t _ _ ((List.replicate n1 false).set 0 true) (RdN.below HR0.out (below_set hbel1 (show w.heap.size≤w.heap.size+1 by omega))) HF.out HT.out (RowR.has bE_len HPUT.out.1) (by rw [List.length_set,List.length_replicate];exact HN1.out)).mono ?_);rintro e w2 ⟨o,O,rfl,HR,hO,HEO,HB⟩;obtain⟨ao,co,eo,hob,hoc⟩:=HasB.cell (i:=s.size) (RowR.has bE_len HR.out) (by omega);rw [show O.length=n1 by rw [hO];exact HN1.out.symm]at eo;cases eo;have hG:Hid (On O s.size↔O[s.size]=true):=hid (on_get (by omega));generalize O[s.size]=b at hoc hG;have HO:=hid hO;clear hO))
 go_ret
 refine⟨b,rfl,hid ?_,below_step (below_set hbel1 (show w.heap.size≤w.heap.size+1 by omega)) HB.out⟩
 have hA:∀i,On ((List.replicate n1 false).set 0 true) i↔i=0:=fun i=>by
  rw [on_set (by rw [List.length_replicate];exact hn0)]
  constructor
  ·rintro(⟨h,_⟩|⟨_,h⟩)
   ·exact h
   ·exact absurd h (on_rep _ _)
  ·intro h;exact .inl ⟨h,rfl⟩
 rw [←hG.out,HEO.out s.size (by rw [HO.out];omega)]
 constructor
 ·rintro⟨i,h1,h2⟩;rw [(hA i).1 h1]at h2;exact h2
 ·intro h;exact⟨0,(hA 0).2 rfl,h⟩
end
section
open Go.RowKit

def TxAll (t:Pat):Prop:=t.x.text.size≤9223372036854775807∧∀d,TxFit d t.kids
theorem txfit_of {l:List Pat}(h:∀p,p∈l→TxAll p):∀d,TxFit d l
 | 0=>trivial
 | d+1=>fun p hp=>⟨(h p hp).1,(h p hp).2 d⟩
theorem tx_op {op:Int}{l:List Pat}(h:∀p,p∈l→TxAll p):TxAll (opP op l):=⟨by show(0:Nat)≤_;omega,txfit_of h⟩
theorem tx_one {p:Pat}(h:TxAll p):∀q,q∈[p]→TxAll q:=fun q hq=>by rw [List.mem_singleton.1 hq];exact h
theorem tx_chars {l:List UInt8}(h:l.length≤256):TxAll (charsP l):=⟨by show l.toArray.size≤_;rw [List.size_toArray];omega,txfit_of (fun p hp=>absurd hp (List.not_mem_nil))⟩
theorem tx_rep {p:Pat}(h:TxAll p)(l:List UInt8):TxAll (repT p l).1:=by
 unfold repT
 split
 ·exact h
 ·split
  ·exact tx_op (tx_one h)
  ·split
   ·exact tx_op (tx_one h)
   ·split
    ·refine tx_op fun q hq=>?_
     rcases List.mem_cons.1 hq with rfl|hq
     ·exact h
     ·rw [List.mem_singleton.1 hq];exact tx_op (tx_one h)
    ·exact h
theorem tx_join (op:Int){l:List Pat}(h:∀p,p∈l→TxAll p):TxAll (joinP op l):=by
 unfold joinP
 split
 ·exact h _ (by simp)
 ·exact tx_op h
def TxA (A:List UInt8→Option (Pat×List UInt8)):Prop:=∀l p r,A l=some (p,r)→TxAll p
theorem tx_repL {A:List UInt8→Option (Pat×List UInt8)}(h:TxA A):TxA (repL A):=by
 intro l p r e
 unfold repL at e
 cases hA:A l with
 | none=>rw [hA]at e;cases e
 | some x =>
  obtain⟨q,t⟩:=x
  rw [hA]at e
  have e2:repT q t=(p,r):=Option.some.inj e
  have:=tx_rep (h l q t hA) t
  rw [e2]at this
  exact this
theorem tx_seqL {A:List UInt8→Option (Pat×List UInt8)}(h:TxA A):∀(m:Nat) (l:List UInt8),∀t∈(seqL A m l).1,TxAll t
 | 0,l=>fun t ht=>absurd ht (by simp [seqL])
 | m + 1, l => by
  rw [seqL]
  split
  ·exact fun t ht=>absurd ht (by simp)
  ·rename_i p r e
   intro t ht
   rcases List.mem_cons.1 ht with rfl|ht
   ·exact tx_repL h l _ r e
   ·exact tx_seqL h m r t ht
theorem tx_seqP {A:List UInt8→Option (Pat×List UInt8)}(h:TxA A)(l:List UInt8):TxAll (seqP A l).1:=tx_join 2 (tx_seqL h l.length l)
theorem tx_altL {A:List UInt8→Option (Pat×List UInt8)}(h:TxA A):∀(m:Nat) (l:List UInt8),∀t∈(altL A m l).1,TxAll t
 | 0,l=>tx_one (tx_seqP h l)
 | m + 1, l => by
  rw [altL]
  split
  ·exact tx_one (tx_seqP h l)
  ·split
   ·rename_i c r _ _
    intro t ht
    rcases List.mem_cons.1 ht with rfl|ht
    ·exact tx_seqP h l
    ·exact tx_altL h m r t ht
   ·exact tx_one (tx_seqP h l)
theorem tx_altP {A:List UInt8→Option (Pat×List UInt8)}(h:TxA A)(l:List UInt8):TxAll (altP A l).1:=tx_join 3 (tx_altL h l.length l)
theorem clsL_len (l:List UInt8):(clsL l).length≤256:=by
 unfold clsL
 exact Nat.le_trans (List.length_filter_le _ _) (by simp)
theorem tx_classL:TxA classL:=by
 intro l p r h
 unfold classL at h
 split at h
 ·cases h
 ·split at h
  ·cases h;exact tx_chars (clsL_len _)
  ·cases h
theorem tx_atomF:∀n,TxA (atomF n)
 | 0=>fun l p r e=>by cases e
 | n + 1 => fun l p r e => by
  have ih:=tx_altP (tx_atomF n)
  have e':atomL (altP (atomF n)) l=some (p,r):=e
  unfold atomL at e'
  split at e'
  ·cases e'
  ·rename_i c t
   split at e'
   ·split at e'
    ·cases e'
    ·split at e'
     ·cases e';exact ih t
     ·cases e'
   ·split at e'
    ·exact tx_classL _ _ _ e'
    ·split at e'
     ·cases e';exact tx_chars (by unfold anyL;simp)
     ·split at e'
      ·cases e';exact tx_chars (by simp)
      ·cases e'
theorem tx_patS {l:List UInt8}{p:Pat}(h:patS l=some p):TxAll p:=by
 unfold patS at h
 split at h
 ·cases h
 ·split at h
  ·cases h;exact tx_altP (tx_atomF _) l
  ·cases h
end
section
open Go.RowKit

theorem sParsePat_any (hA:∀n,SAltC n)(s:ByteArray)(hs:s.size≤maxLen)(w:World):Calls Tryz.prog 57 #[.string s] w (ParseOut (patS s.data.toList) w):=by
 unfold maxLen at hs
 have hll:s.data.toList.length=s.size:=by simp
 unfold patS
 rw [hll]
 by_cases h30:30<s.size
 ·rw [if_pos h30]
  have hq:decide ((30:Int)<(s.size:Int))=true:=by simp;omega
  have hq':(30:Int)<(s.size:Int):=by omega
  clear h30 hll
  go_enter Tryz.func57,Tryz.ntmps57
  go_wp2
  refine bodyPost_ret (v:=.tuple #[.agg #[.int .i64 0,.string ⟨#[]⟩,.slice none 0 0],.bool false]) (by simp [results,Tryz.results57,go_sem]) rfl ?_
  exact⟨rfl,below_al (below_al (Below.refl _ _) _) _⟩
 ·rw [if_neg h30]
  obtain⟨W0,hW0⟩:∃W0,W0=(w.alloc (.cells #[.int .i64 0,.string ⟨#[]⟩,.slice none 0 0] 92)).alloc (.cells #[.string s,.int .i64 0,.bool false] 134):=⟨_,rfl⟩
  have hP0:PS W0 (w.heap.size+1) s 0 false:=by
   subst hW0
   have:=heap_alloc_new (w.alloc (.cells #[.int .i64 0,.string ⟨#[]⟩,.slice none 0 0] 92)) (.cells #[.string s,.int .i64 0,.bool false] 134)
   rw [show(w.alloc (.cells #[.int .i64 0,.string ⟨#[]⟩,.slice none 0 0] 92)).heap.size=w.heap.size+1 by simp]at this
   exact this
  have hB0:Below w.heap.size w W0:=by rw [hW0];exact below_al (below_al (Below.refl _ _) _) _
  have hC:=hA s.size (w.heap.size+1) s 0 W0 hP0 (by omega) (by omega) (by omega)
  rw [List.drop_zero]at hC
  obtain⟨⟨p,r⟩,hpr⟩:∃x,x=altP (atomF s.size) s.data.toList:=⟨_,rfl⟩
  rw [←hpr]at hC ⊢
  simp only at hC ⊢
  have hq:decide ((30:Int)<(s.size:Int))=false:=by simp;omega
  have hq':¬(30:Int)<(s.size:Int):=by omega
  have hbox:∀w1,RT (w.heap.size+1) W0 w1→((w1.cell? ⟨w.heap.size,0,none⟩=some (.int .i64 0)∧w1.cell? ⟨w.heap.size,1,none⟩=some (.string ⟨#[]⟩)∧w1.cell? ⟨w.heap.size,2,none⟩=some (.slice none 0 0))∧(w1.frozen? ⟨w.heap.size,0,none⟩=false∧w1.frozen? ⟨w.heap.size,1,none⟩=false∧w1.frozen? ⟨w.heap.size,2,none⟩=false)∧w.heap.size<w1.heap.size)∧Below w.heap.size w w1∧w.heap.size+1<w1.heap.size:=fun w1 ht=>by
   have hsz:W0.heap.size=w.heap.size+2:=by rw [hW0];simp
   have h0:W0.heap[w.heap.size]? =some (.cells #[.int .i64 0,.string ⟨#[]⟩,.slice none 0 0] 92 (0,0)):=by
    rw [hW0]
    rw [Below.heap_alloc _ _ w.heap.size (by simp)]
    exact heap_alloc_new w _
   have h1:=(ht.block w.heap.size (by omega) (by show ¬w.heap.size=w.heap.size+1;omega)).trans h0
   refine⟨⟨⟨?_,?_,?_⟩,⟨?_,?_,?_⟩,by have:=ht.size;omega⟩,?_⟩
   ·rw [cell_of_row _ w.heap.size 0 _ _ _ h1];rfl
   ·rw [cell_of_row _ w.heap.size 1 _ _ _ h1];rfl
   ·rw [cell_of_row _ w.heap.size 2 _ _ _ h1];rfl
   ·simp [World.frozen?,h1]
   ·simp [World.frozen?,h1]
   ·simp [World.frozen?,h1]
   ·exact⟨hB0.trans (ht.below (by omega) (fun q hq=>by rw [hq];omega)),by have:=ht.size;omega⟩
  have HBOX:=hid hbox
  have H30:=hid h30
  cases hok:okR r with
  | false =>
   rw [hok,if_neg (by decide)]at hC
   have hr:r≠[]:=by rintro rfl;cases hok
   rw [if_neg hr]
   have HC:=hid hC
   clear hC hA hbox hok hr hpr h30 hll hP0 hB0
   go_enter Tryz.func57,Tryz.ntmps57
   go_wp2_with (go_at_call 95;(rw [←hW0];(refine(HC.out).mono ?_);rintro e w1 ⟨op,text,A,m,c,i,rfl,hP1,hT1⟩;obtain⟨⟨⟨b0,b1,b2⟩,⟨f0,f1,f2⟩,hz⟩,hb1,hz1⟩:=HBOX.out w1 hT1;obtain⟨⟨p0,p1,p2⟩,g1,g2⟩:=hP1.cells))
   refine bodyPost_ret (v:=.tuple #[.agg #[.int .i64 0,.string ⟨#[]⟩,.slice none 0 0],.bool false]) (by simp [results,Tryz.results57,go_sem,b0,b1,b2,hz]) rfl ?_
   exact⟨rfl,below_al (below_set (below_set (below_set hb1 (Nat.le_refl _)) (Nat.le_refl _)) (Nat.le_refl _)) _⟩
  | true =>
   rw [hok,if_pos rfl]at hC
   obtain⟨k,hk⟩:∃k,s.size-r.length=k:=⟨_,rfl⟩
   have HC:Hid (Calls Tryz.prog 95 #[.pointer (some ⟨w.heap.size+1,0,none⟩)] W0 fun e w'=>∃(A:Option Addr) (c:Nat) (S:Nat→Prop),e=.returned (.agg #[.int .i64 p.x.op,.string p.x.text,.slice A p.kids.length c])∧OwN patK (4*s.size+4) W0.heap.size w' ⟨p.x.op,p.x.text,.slice A p.kids.length c⟩ p S∧PS w' (w.heap.size+1) s k false∧RT (w.heap.size+1) W0 w'):=hid (by rw [←hk];exact hC)
   by_cases hr:r=[]
   ·rw [if_pos hr]
    have hks:k=s.size:=by rw [hr]at hk;simpa using hk.symm
    have hq2:((k:Int) != (s.size:Int))=false:=by simp;omega
    have HKS:=hid hks
    have HB0:=hid hB0
    clear hC hA hbox hok hr hpr h30 hll hP0 hB0 hk hks
    go_enter Tryz.func57,Tryz.ntmps57
    go_wp2_with (go_at_call 95;(rw [←hW0];(refine(HC.out).mono ?_);rintro e w1 ⟨A,c,S,rfl,ho,hP1,hT1⟩;obtain⟨⟨⟨b0,b1,b2⟩,⟨f0,f1,f2⟩,hz⟩,hb1,hz1⟩:=HBOX.out w1 hT1;obtain⟨⟨p0,p1,p2⟩,g1,g2⟩:=hP1.cells))
    refine bodyPost_ret (v:=.tuple #[.agg #[.int .i64 p.x.op,.string p.x.text,.slice A p.kids.length c],.bool true]) (by simp [results,Tryz.results57,go_sem,b0,b1,b2,hz]) rfl ?_
    have hsz:W0.heap.size=w.heap.size+2:=by rw [hW0];simp
    exact⟨A,c,S,rfl,(((((OwN.set ho (by omega)).set (by omega)).set (by omega)).al _).mono HB0.out.size).to (by have:=H30.out;omega),below_al (below_set (below_set (below_set hb1 (Nat.le_refl _)) (Nat.le_refl _)) (Nat.le_refl _)) _⟩
   ·rw [if_neg hr]
    have hks:k≠s.size:=by
     have:=List.length_pos_iff.2 hr
     have h30':=H30.out
     by_cases h0:s.size=0
     ·have hs1:=(altP_suf (atomF_sh s.size) s.data.toList).len
      rw [←hpr,hll]at hs1
      simp only at hs1;omega
     ·omega
    have hq2:((k:Int) != (s.size:Int))=true:=by simp;omega
    have HKS:=hid hks
    clear hC hA hbox hok hr hpr h30 hll hP0 hB0 hk hks
    go_enter Tryz.func57,Tryz.ntmps57
    go_wp2_with (go_at_call 95;(rw [←hW0];(refine(HC.out).mono ?_);rintro e w1 ⟨A,c,S,rfl,ho,hP1,hT1⟩;obtain⟨⟨⟨b0,b1,b2⟩,⟨f0,f1,f2⟩,hz⟩,hb1,hz1⟩:=HBOX.out w1 hT1;obtain⟨⟨p0,p1,p2⟩,g1,g2⟩:=hP1.cells))
    refine bodyPost_ret (v:=.tuple #[.agg #[.int .i64 0,.string ⟨#[]⟩,.slice none 0 0],.bool false]) (by simp [results,Tryz.results57,go_sem,b0,b1,b2,hz]) rfl ?_
    exact⟨rfl,below_al (below_set (below_set (below_set hb1 (Nat.le_refl _)) (Nat.le_refl _)) (Nat.le_refl _)) _⟩
theorem sIsPat_any (hA:∀n,SAltC n)(s:ByteArray)(hs:s.size≤maxLen)(w:World):Calls Tryz.prog 61 #[.string s] w fun e w'=>e=.returned (.bool (patS s.data.toList).isSome)∧Below w.heap.size w w':=by
 have HC:=hid (fun w=>sParsePat_any hA s hs w)
 unfold maxLen at hs
 cases ho:patS s.data.toList with
 | none =>
  rw [ho]at HC
  clear ho
  go_enter Tryz.func61,Tryz.ntmps61
  go_wp2_with (go_at_call 57;((refine(HC.out _).mono ?_);rintro e w1 ⟨rfl,hb⟩))
  go_ret
  exact⟨rfl,below_al hb _⟩
 | some p =>
  rw [ho]at HC
  clear ho
  go_enter Tryz.func61,Tryz.ntmps61
  go_wp2_with (go_at_call 57;((refine(HC.out _).mono ?_);rintro e w1 ⟨A,c,S,rfl,_,hb⟩))
  go_ret
  exact⟨rfl,below_al hb _⟩
end
section
open Go.RowKit

def TextOf (p s:ByteArray):Prop:=∃t,patS p.data.toList=some t∧Mt s 124 t 0 s.size
theorem smatchText (hA:∀n,SAltC n)(p s:ByteArray)(hp:p.size≤maxLen)(hs:s.size≤1048576)(w:World):Calls Tryz.prog 29 #[.string p,.string s] w fun e w'=>∃b:Bool,e=.returned (.bool b)∧Hid (b=true↔TextOf p s)∧Below w.heap.size w w':=by
 have HC:=hid (fun w=>sParsePat_any hA p hp w)
 have HM:=hid (fun d r t w=>smatch s hs d r t w)
 cases ho:patS p.data.toList with
 | none =>
  have HT:Hid (¬TextOf p s):=hid (by rintro⟨t,h,_⟩;rw [ho]at h;cases h)
  rw [ho]at HC
  clear ho
  go_enter Tryz.func29,Tryz.ntmps29
  go_wp2_with (first
   |(go_at_call 57;((refine(HC.out _).mono ?_);rintro e w1 ⟨rfl,hb⟩)))
  go_ret
  exact⟨false,rfl,hid ⟨fun h=>absurd h (by simp),fun h=>absurd h HT.out⟩,below_al hb _⟩
 | some t =>
  have HT:Hid (TextOf p s↔Mt s 124 t 0 s.size):=hid ⟨fun⟨t',h,h'⟩=>by rw [ho]at h;cases h;exact h',fun h=>⟨t,ho,h⟩⟩
  have HX:=hid (tx_patS ho)
  rw [ho]at HC
  clear ho
  go_enter Tryz.func29,Tryz.ntmps29
  go_wp2_with (first
   |(go_at_call 57;((refine(HC.out _).mono ?_);rintro e w1 ⟨A,c,S,rfl,hown,hb⟩;have HR:=hid (OwN.rd hown);clear hown))
   |(go_at_call 58;(go_loud (refine(HM.out 124 ⟨t.x.op,t.x.text,.slice A t.kids.length c⟩ t _ (RdN.below HR.out (below_al (Below.refl _ _) _)) (HX.out.2 124) HX.out.1).mono ?_);rintro e w2 ⟨b,rfl,hB,hb2⟩)))
  go_ret
  exact⟨b,rfl,hid (hB.out.trans HT.out.symm),below_step (below_al hb _) hb2⟩
end
section
open Go.RowKit

theorem pow2_succ (k:Nat):2 ^ (k+1)=2*2 ^ k:=by rw [Nat.pow_succ];omega
theorem pow2_pos (k:Nat):1≤2 ^ k:=Nat.pos_of_ne_zero (by simp)
theorem pow2_two {k:Nat}(h:1≤k):2≤2 ^ k:=by
 obtain⟨j,rfl⟩:∃j,k=j+1:=⟨k-1,by omega⟩
 rw [pow2_succ];have:=pow2_pos j;omega
theorem mul_two {x y:Nat}(hx:2≤x)(hy:2≤y):x+y≤x*y:=by
 obtain⟨a,rfl⟩:=Nat.le.dest hx
 obtain⟨b,rfl⟩:=Nat.le.dest hy
 rw [Nat.mul_add,Nat.add_mul,Nat.add_mul]
 have:=Nat.zero_le (a*b)
 omega
theorem mul_one2 {x y:Nat}(hx:1≤x)(hy:1≤y):x+y≤2*(x*y):=by
 obtain⟨a,rfl⟩:=Nat.le.dest hx
 obtain⟨b,rfl⟩:=Nat.le.dest hy
 rw [Nat.mul_add,Nat.add_mul,Nat.add_mul]
 have:=Nat.zero_le (a*b)
 omega
def CntB (A:List UInt8→Option (Pat×List UInt8)):Prop:=∀l p r,A l=some (p,r)→∀d,cntP d p+2≤2 ^ (l.length-r.length+1)
theorem cnb_rep {d:Nat}{p:Pat}{k:Nat}(h:cntP d p+2≤2 ^ (k+1))(l:List UInt8):cntP d (repT p l).1+2≤2 ^ (k+(l.length-(repT p l).2.length)+1):=by
 have h1:=cnt_pos d p
 have h2:=pow2_succ (k+1)
 unfold repT
 split
 ·simpa using h
 ·rename_i c r
  have hk:k+((c::r).length-r.length)=k+1:=by simp
  split
  ·show cntP d (opP 4 [p])+2≤2 ^ (k+((c::r).length-r.length)+1)
   rw [hk]
   have:=cnt_one d 4 p;omega
  ·split
   ·show cntP d (opP 5 [p])+2≤2 ^ (k+((c::r).length-r.length)+1)
    rw [hk]
    have:=cnt_one d 5 p;omega
   ·split
    ·show cntP d (opP 2 [p,opP 4 [p]])+2≤2 ^ (k+((c::r).length-r.length)+1)
     rw [hk]
     have:=cnt_two d 2 p (opP 4 [p])
     have:=cnt_one d 4 p;omega
    ·simpa using h
theorem cnb_repL {A:List UInt8→Option (Pat×List UInt8)}(h:CntB A)(hs:Sh A):CntB (repL A):=by
 intro l p r e d
 unfold repL at e
 cases hA:A l with
 | none=>rw [hA]at e;cases e
 | some x =>
  obtain⟨q,t⟩:=x
  rw [hA]at e
  have e2:repT q t=(p,r):=Option.some.inj e
  have h1:=cnb_rep (h l q t hA d) t
  have h2:=(hs l q t hA).1.len
  have h3:=(repT_suf q t).len
  rw [e2]at h1 h3
  have h3':r.length≤t.length:=h3
  have h1':cntP d p+2≤2 ^ (l.length-t.length+(t.length-r.length)+1):=h1
  rw [show l.length-t.length+(t.length-r.length)=l.length-r.length by omega]at h1'
  exact h1'
theorem cnb_seqL {A:List UInt8→Option (Pat×List UInt8)}(h:CntB A)(hs:Sh A)(d:Nat):∀(m:Nat) (l:List UInt8),((seqL A m l).1.map (cntP d)).sum+nOne (seqL A m l).1+1≤2 ^ (l.length-(seqL A m l).2.length+1)∧((seqL A m l).1≠[]→(seqL A m l).2.length<l.length)
 | 0,l=>⟨by simp [seqL,nOne],fun hn=>absurd (show(seqL A 0 l).1=[]from rfl) hn⟩
 | m + 1, l => by
  rw [seqL]
  split
  ·exact⟨by simp [nOne],fun hn=>absurd rfl hn⟩
  ·rename_i p r e
   have h1:=cnb_repL h hs l p r e d
   have h2:=(repL_sh hs l p r e).2
   obtain⟨ih,ihn⟩:=cnb_seqL h hs d m r
   have h3:=(seqL_suf hs m r).len
   obtain⟨T,hT⟩:∃T,T=seqL A m r:=⟨_,rfl⟩
   rw [←hT]at ih ihn h3 ⊢
   refine⟨?_,fun _=>by show T.2.length<l.length;omega⟩
   show(cntP d p+(T.1.map (cntP d)).sum)+nOne (p::T.1)+1≤2 ^ (l.length-T.2.length+1)
   by_cases he:T.1=[]
   ·rw [he]
    have h4:2 ^ (l.length-r.length+1)≤2 ^ (l.length-T.2.length+1):=Nat.pow_le_pow_right (by decide) (by omega)
    simp only [nOne,List.map_nil,List.sum_nil,List.length_cons,List.length_nil]
    simp
    omega
   ·have h4:=ihn he
    have hn1:nOne (p::T.1)=1:=by
     unfold nOne
     rw [if_neg]
     simp only [List.length_cons]
     intro hh
     exact he (List.length_eq_zero_iff.1 (by omega))
    rw [hn1,show l.length-T.2.length=(l.length-r.length)+(r.length-T.2.length)by omega,pow2_succ,Nat.pow_add]
    rw [pow2_succ]at h1 ih
    have:=mul_two (pow2_two (k:=l.length-r.length) (by omega)) (pow2_two (k:=r.length-T.2.length) (by omega))
    omega
theorem cnb_seqP {A:List UInt8→Option (Pat×List UInt8)}(h:CntB A)(hs:Sh A)(d:Nat)(l:List UInt8):cntP d (seqP A l).1+1≤2 ^ (l.length-(seqP A l).2.length+1):=
 Nat.le_trans (Nat.add_le_add_right (cnt_join d 2 _) 1) (cnb_seqL h hs d l.length l).1
theorem cnb_altL {A:List UInt8→Option (Pat×List UInt8)}(h:CntB A)(hs:Sh A)(d:Nat):∀(m:Nat) (l:List UInt8),(altL A m l).1≠[]∧((altL A m l).1.map (cntP d)).sum+nOne (altL A m l).1+1≤2 ^ (l.length-(altL A m l).2.length+1)
 | 0, l => by
  have:=cnb_seqP h hs d l
  refine⟨by simp [altL],?_⟩
  show([(seqP A l).1].map (cntP d)).sum+nOne [(seqP A l).1]+1≤2 ^ (l.length-(seqP A l).2.length+1)
  simpa [nOne]using this
 | m + 1, l => by
  have h1:=cnb_seqP h hs d l
  have h2:=(seqP_suf hs l).len
  rw [altL]
  split
  ·rename_i e
   rw [e]at h1
   exact⟨by simp,by simpa [nOne]using h1⟩
  ·rename_i c r e
   rw [e]at h1 h2
   rw [List.length_cons]at h1 h2
   split
   ·obtain⟨ihn,ih⟩:=cnb_altL h hs d m r
    have h3:=(altL_suf hs m r).len
    obtain⟨T,hT⟩:∃T,T=altL A m r:=⟨_,rfl⟩
    rw [←hT]at ihn ih h3 ⊢
    refine⟨by simp,?_⟩
    show(cntP d (seqP A l).1+(T.1.map (cntP d)).sum)+nOne ((seqP A l).1::T.1)+1≤2 ^ (l.length-T.2.length+1)
    have hn1:nOne ((seqP A l).1::T.1)=1:=by
     unfold nOne
     rw [if_neg]
     simp only [List.length_cons]
     intro hh
     exact ihn (List.length_eq_zero_iff.1 (by omega))
    rw [hn1,show l.length-T.2.length+1=((l.length-(r.length+1))+(r.length-T.2.length))+1+1 by omega,pow2_succ,pow2_succ,Nat.pow_add]
    rw [pow2_succ]at h1 ih
    have:=mul_one2 (pow2_pos (l.length-(r.length+1))) (pow2_pos (r.length-T.2.length))
    omega
   ·refine⟨by simp,?_⟩
    show([(seqP A l).1].map (cntP d)).sum+nOne [(seqP A l).1]+1≤2 ^ (l.length-(c::r).length+1)
    simpa [nOne]using h1
theorem cnb_altP {A:List UInt8→Option (Pat×List UInt8)}(h:CntB A)(hs:Sh A)(d:Nat)(l:List UInt8):cntP d (altP A l).1+1≤2 ^ (l.length-(altP A l).2.length+1):=
 Nat.le_trans (Nat.add_le_add_right (cnt_join d 3 _) 1) (cnb_altL h hs d l.length l).2
theorem cnb_flat {p:Pat}(h:p.kids=[])(d k:Nat)(hk:1≤k):cntP d p+2≤2 ^ (k+1):=by
 unfold cntP;rw [h,cntL_nil,pow2_succ];have:=pow2_two hk;omega
theorem cnb_atomF:∀n,CntB (atomF n)
 | 0=>fun l p r e=>by cases e
 | n + 1 => fun l p r e d => by
  have ih:=cnb_altP (cnb_atomF n) (atomF_sh n) d
  have hsf:=fun t=>(altP_suf (atomF_sh n) t).len
  have hlt:=(atomF_sh (n+1) l p r e).2
  have e':atomL (altP (atomF n)) l=some (p,r):=e
  unfold atomL at e'
  split at e'
  ·cases e'
  ·rename_i c t
   split at e'
   ·have h1:=ih t
    have h2:=hsf t
    split at e'
    ·cases e'
    ·rename_i d' r' e2
     split at e'
     ·rw [e2]at h1 h2
      cases e'
      have h3:2 ^ (t.length-(d'::r).length+1)+1≤2 ^ ((c::t).length-r.length+1):=by
       have h4:2 ^ (t.length-(d'::r).length+1+1)≤2 ^ ((c::t).length-r.length+1):=Nat.pow_le_pow_right (by decide) (by simp only [List.length_cons]at h2 ⊢;omega)
       have h5:=pow2_succ (t.length-(d'::r).length+1)
       have h6:=pow2_pos (t.length-(d'::r).length+1)
       omega
      omega
     ·cases e'
   ·split at e'
    ·exact cnb_flat (classL_kids e') d _ (by omega)
    ·split at e'
     ·cases e';exact cnb_flat rfl d _ (by omega)
     ·split at e'
      ·cases e';exact cnb_flat rfl d _ (by omega)
      ·cases e'
theorem patS_cnt {l:List UInt8}{p:Pat}(h:patS l=some p)(d:Nat):1+cntL d p.kids≤2147483647:=by
 unfold patS at h
 split at h
 ·cases h
 ·rename_i hl
  split at h
  ·rename_i hr
   cases h
   have h1:=cnb_altP (cnb_atomF l.length) (atomF_sh l.length) d l
   have h2:2 ^ (l.length-(altP (atomF l.length) l).2.length+1)≤2 ^ 31:=Nat.pow_le_pow_right (by decide) (by omega)
   have h3:(2:Nat) ^ 31=2147483648:=by decide
   rw [h3]at h2
   unfold cntP at h1
   omega
  ·cases h
end
end Go.Proofs.YtecladbckadijaaGreatDoor
