/- MERGED for a claim. -/
import Derived.Test.YtecladbckadijaaGreatDoorMatC
import Derived.Laws.CopyOwn
set_option linter.unusedVariables false
set_option linter.unusedSimpArgs false
set_option maxRecDepth 100000
set_option maxHeartbeats 16000000
namespace Go.Proofs.YtecladbckadijaaGreatDoor
open Go.Lib (hid)
section
open Go.RowKit

inductive Vs where
 | wait
 | ways (l:List Nat)
structure Pl where
 t:Pat
 e:Nat
 r:PatR
 nx:Nat
 b:Nat
 vis:Int
 sh:Option Vs
def DeepL:Nat→List Pat→Prop
 | 0,l=>l=[]
 | e+1,l=>∀t,t∈l→DeepL e t.kids
theorem mt_deepL (s:ByteArray):∀(d:Nat) (t:Pat) (e:Nat),DeepL d t.kids→d≤e→Mt s e t=Mt s d t
 | 0, t, e, hf, _ => by
  rw [mt_step,mt_step]
  have hk:t.kids=[]:=hf
  exact stepM_congr (fun k h=>by rw [hk]at h;cases h)
 | d + 1, t, e, hf, he => by
  obtain⟨e',rfl⟩:∃e',e=e'+1:=⟨e-1,by omega⟩
  rw [mt_step,mt_step]
  exact stepM_congr (fun k h=>mt_deepL s d k e' (hf k h) (by omega))
theorem m_step (s:ByteArray){D d:Nat}{t:Pat}(hf:DeepL d t.kids)(hd:d≤D):Mt s D t=StepM s (Mt s D) t:=by
 rw [mt_step]
 refine stepM_congr fun k h=>?_
 cases d with
 | zero=>have hk:t.kids=[]:=hf;rw [hk]at h;cases h
 | succ d =>
  obtain⟨D',rfl⟩:∃D',D=D'+1:=⟨D-1,by omega⟩
  show Mt s D' k=Mt s (D'+1) k
  rw [mt_deepL s d k D' (hf k h) (by omega),mt_deepL s d k (D'+1) (hf k h) (by omega)]
theorem rd_deep {w:World}:∀ {d:Nat} {v:Value} {l:List Pat},RdL patK d w v l→DeepL d l
 | 0,_,_,h=>h.1
 | d + 1, _, l, ⟨R, _, h2, h3⟩ => fun t ht => by
  obtain⟨i,hi,rfl⟩:=List.getElem_of_mem ht
  exact rd_deep (h3 i (by rw [h2];exact hi) hi).2
namespace Mac
def Leads (L:List Pl):Nat→List Pat→Nat→Prop
 | r,[],n=>r=n
 | r,k::ks,n=>∃(j:Nat) (p:Pl),r=j+1∧L[j]? =some p∧p.t=k∧Leads L p.nx ks n
def Tries (L:List Pl)(l:List Pat)(behind n:Nat)(sh:Vs):Prop:=
 match l with
 | [k]=>∃r,sh=.ways [r,n]∧Leads L r [k] behind
 | _=>sh=.ways [n]
def Shaped (L:List Pl)(i:Nat)(p:Pl)(sh:Vs):Prop:=
 (p.t.x.op=1→sh=.wait)∧(p.t.x.op=2→∃r,sh=.ways [r]∧Leads L r p.t.kids p.nx)∧
 (p.t.x.op=3→∃l,sh=.ways l∧l.length=p.t.kids.length∧∀q (h:q<l.length) (h':q<p.t.kids.length),Leads L l[q] [p.t.kids[q]] p.nx)∧
 (p.t.x.op=4→Tries L p.t.kids (i+1) p.nx sh)∧(p.t.x.op=5→Tries L p.t.kids p.nx p.nx sh)∧
 (p.t.x.op≠1→p.t.x.op≠2→p.t.x.op≠3→p.t.x.op≠4→p.t.x.op≠5→sh=.ways [])
def Ext (L L':List Pl):Prop:=∀(i:Nat) (p:Pl),L[i]? =some p→∃p',L'[i]? =some p'∧p'.t=p.t∧p'.nx=p.nx
theorem Ext.refl (L:List Pl):Ext L L:=fun _ p h=>⟨p,h,rfl,rfl⟩
theorem Ext.trans {L L' L'':List Pl}(h:Ext L L')(h':Ext L' L''):Ext L L'':=fun i p hp=>by
 obtain⟨p',h1,h2,h3⟩:=h i p hp
 obtain⟨p'',h4,h5,h6⟩:=h' i p' h1
 exact⟨p'',h4,h5.trans h2,h6.trans h3⟩
theorem ext_append (L N:List Pl):Ext L (L++N):=fun i p hp=>⟨p,by rw [List.getElem?_append_left (List.getElem?_eq_some_iff.1 hp).1];exact hp,rfl,rfl⟩
theorem ext_set {L:List Pl}{i:Nat}{p q:Pl}(h:L[i]? =some p)(ht:q.t=p.t)(hn:q.nx=p.nx):Ext L (L.set i q):=fun j x hx=>by
 by_cases e:i=j
 ·subst e
  rw [h]at hx;cases hx
  exact⟨q,by rw [List.getElem?_set_self (List.getElem?_eq_some_iff.1 h).1],ht,hn⟩
 ·exact⟨x,by rw [List.getElem?_set_ne e];exact hx,rfl,rfl⟩
theorem Leads.ext {L L':List Pl}(he:Ext L L'):∀ {l:List Pat} {r n:Nat},Leads L r l n→Leads L' r l n
 | [],_,_,h=>h
 | _ :: _, _, _, ⟨j, p, h1, h2, h3, h4⟩ => by
  obtain⟨p',g1,g2,g3⟩:=he j p h2
  exact⟨j,p',h1,g1,g2.trans h3,by rw [g3];exact Leads.ext he h4⟩
theorem Tries.ext {L L':List Pl}(he:Ext L L'){l:List Pat}{b n:Nat}{sh:Vs}(h:Tries L l b n sh):Tries L' l b n sh:=by
 unfold Tries at h ⊢
 split
 ·obtain⟨r,a,b⟩:=h;exact⟨r,a,b.ext he⟩
 ·rename_i hk
  split at h
  ·exact absurd rfl (hk _)
  ·exact h
theorem Shaped.ext {L L':List Pl}(he:Ext L L'){i:Nat}{p p':Pl}(ht:p'.t=p.t)(hn:p'.nx=p.nx){sh:Vs}(h:Shaped L i p sh):Shaped L' i p' sh:=by
 obtain⟨h1,h2,h3,h4,h5,h6⟩:=h
 unfold Shaped
 rw [ht,hn]
 refine⟨h1,fun c=>?_,fun c=>?_,fun c=>(h4 c).ext he,fun c=>(h5 c).ext he,h6⟩
 ·obtain⟨r,a,b⟩:=h2 c;exact⟨r,a,b.ext he⟩
 ·obtain⟨l,a,b,c'⟩:=h3 c;exact⟨l,a,b,fun q x y=>(c' q x y).ext he⟩
theorem Leads.le {L:List Pl}:∀ {l:List Pat} {r n:Nat},Leads L r l n→n≤L.length→r≤L.length
 | [],_,_,h,hn=>by rw [show _=_ from h];exact hn
 | _::_,_,_,⟨j,p,h1,h2,_,_⟩,_=>by have:=(List.getElem?_eq_some_iff.1 h2).1;omega
inductive Path (s:ByteArray) (D:Nat) (L:List Pl):Nat→Nat→Nat→Prop
 | fin (k:Nat):Path s D L 0 k k
 | via {i k m j:Nat} {p:Pl} (h:L[i]? =some p) (hm:Mt s D p.t k m) (hp:Path s D L p.nx m j):Path s D L (i+1) k j
def Ord (L:List Pl):Prop:=∀(i:Nat) (p:Pl),L[i]? =some p→p.nx≤i
theorem Path.back {s:ByteArray}{D:Nat}{L L':List Pl}(ho:Ord L)(he:Ext L L'){r k j:Nat}(h:Path s D L' r k j):r≤L.length→Path s D L r k j:=by
 induction h with
 | fin k=>intro _;exact .fin k
 | @via i k m j p' h hm _ ih =>
  intro hr
  obtain⟨p,hp⟩:∃p,L[i]? =some p:=⟨L[i],List.getElem?_eq_getElem (by omega)⟩
  obtain⟨q,g1,g2,g3⟩:=he i p hp
  rw [h]at g1;cases g1
  have hi:=ho i p hp
  have hil:=(List.getElem?_eq_some_iff.1 hp).1
  refine .via hp (by rw [←g2];exact hm) ?_
  rw [←g3]
  exact ih (by rw [g3];omega)
theorem path_leads {s:ByteArray}{D:Nat}{L:List Pl}:∀ {l:List Pat} {r n k j:Nat},Leads L r l n→Path s D L r k j→∃m,SeqR (Mt s D) l k m∧Path s D L n m j
 | [],_,_,k,_,h,hp=>⟨k,rfl,by rw [←show _=_ from h];exact hp⟩
 | t :: ks, _, _, _, _, ⟨i, p, h1, h2, h3, h4⟩, hp => by
  subst h1
  cases hp with
  | via h hm hp' =>
   rw [h]at h2;cases h2
   obtain⟨m,g1,g2⟩:=path_leads h4 hp'
   exact⟨m,⟨_,by rw [←h3];exact hm,g1⟩,g2⟩
section
variable {s:ByteArray} {D:Nat} {L:List Pl} {i:Nat} {p:Pl}
theorem stepM_star {t:Pat}{R:Pat→Nat→Nat→Prop}{k:Pat}(h:t.x.op=4)(hk:t.kids=[k])(a b:Nat):StepM s R t a b↔Rtc (R k) a b:=by
 unfold StepM;rw [if_neg (by omega),if_neg (by omega),if_neg (by omega),if_pos h,hk]
theorem stepM_maybe {t:Pat}{R:Pat→Nat→Nat→Prop}{k:Pat}(h:t.x.op=5)(hk:t.kids=[k])(a b:Nat):StepM s R t a b↔(a=b∨R k a b):=by
 unfold StepM;rw [if_neg (by omega),if_neg (by omega),if_neg (by omega),if_neg (by omega),if_pos h,hk]
theorem stepM_skip {t:Pat}{R:Pat→Nat→Nat→Prop}(h:t.x.op=4∨t.x.op=5)(hk:∀k,t.kids≠[k])(a b:Nat):StepM s R t a b↔a=b:=by
 unfold StepM
 rcases h with h|h
 ·rw [if_neg (by omega),if_neg (by omega),if_neg (by omega),if_pos h]
  split
  ·rename_i k e;exact absurd e (hk k)
  ·exact Iff.rfl
 ·rw [if_neg (by omega),if_neg (by omega),if_neg (by omega),if_neg (by omega),if_pos h]
  split
  ·rename_i k e;exact absurd e (hk k)
  ·exact Iff.rfl
theorem stepM_seq {t:Pat}{R:Pat→Nat→Nat→Prop}(h:t.x.op=2)(a b:Nat):StepM s R t a b↔SeqR R t.kids a b:=by
 unfold StepM;rw [if_neg (by omega),if_pos h]
theorem stepM_alt {t:Pat}{R:Pat→Nat→Nat→Prop}(h:t.x.op=3)(a b:Nat):StepM s R t a b↔∃k,k∈t.kids∧R k a b:=by
 unfold StepM;rw [if_neg (by omega),if_neg (by omega),if_pos h]
theorem stepM_chars {t:Pat}{R:Pat→Nat→Nat→Prop}(h:t.x.op=1)(a b:Nat):StepM s R t a b↔ChAt s t.x.text a∧b=a+1:=by
 unfold StepM;rw [if_pos h]
theorem stepM_other {t:Pat}{R:Pat→Nat→Nat→Prop}(h1:t.x.op≠1)(h2:t.x.op≠2)(h3:t.x.op≠3)(h4:t.x.op≠4)(h5:t.x.op≠5)(a b:Nat):¬StepM s R t a b:=by
 unfold StepM;rw [if_neg h1,if_neg h2,if_neg h3,if_neg h4,if_neg h5];exact id
theorem op_cases (n:Int):n=1∨n=2∨n=3∨n=4∨n=5∨(n≠1∧n≠2∧n≠3∧n≠4∧n≠5):=by omega
theorem sound_wait (hp:L[i]? =some p)(hd:DeepL p.e p.t.kids)(he:p.e≤D)(h1:p.t.x.op=1){k j:Nat}(hc:ChAt s p.t.x.text k)(hq:Path s D L p.nx (k+1) j):Path s D L (i+1) k j:=
 .via hp (by rw [m_step s hd he];exact(stepM_chars h1 _ _).2 ⟨hc,rfl⟩) hq
theorem sound_ways (hp:L[i]? =some p)(hd:DeepL p.e p.t.kids)(he:p.e≤D){l:List Nat}(hs:Shaped L i p (.ways l)){r k j:Nat}(hr:r∈l)(hq:Path s D L r k j):Path s D L (i+1) k j:=by
 have hM:=m_step s hd he
 have skip:∀m,Path s D L p.nx m j→Mt s D p.t k m→Path s D L (i+1) k j:=fun m a b=>.via hp b a
 have tries:∀b,Tries L p.t.kids b p.nx (.ways l)→(∀k',p.t.kids=[k']→∀m,Mt s D k' k m→Path s D L b m j→Path s D L (i+1) k j)→(Mt s D p.t k k)→Path s D L (i+1) k j:=fun b ht hk h0=>by
  unfold Tries at ht
  split at ht
  ·rename_i k' e
   obtain⟨r',e',hl⟩:=ht
   cases e'
   rcases List.mem_cons.1 hr with rfl|hr
   ·obtain⟨m,⟨m',g1,g2⟩,g3⟩:=path_leads hl hq
    have g2':m'=m:=g2
    subst g2'
    exact hk k' e m' g1 g3
   ·rw [List.mem_singleton.1 hr]at hq;exact skip k hq h0
  ·cases ht
   rw [List.mem_singleton.1 hr]at hq;exact skip k hq h0
 obtain⟨c1,c2,c3,c4,c5,c6⟩:=hs
 rcases op_cases p.t.x.op with h|h|h|h|h|⟨h1,h2,h3,h4,h5⟩
 ·cases c1 h
 ·obtain⟨r',e',hl⟩:=c2 h
  cases e'
  rw [List.mem_singleton.1 hr]at hq
  obtain⟨m,g1,g2⟩:=path_leads hl hq
  exact skip m g2 (by rw [hM];exact(stepM_seq h _ _).2 g1)
 ·obtain⟨l',e',hl,hL⟩:=c3 h
  cases e'
  obtain⟨q,hq1,rfl⟩:=List.getElem_of_mem hr
  obtain⟨m,⟨m',g1,g2⟩,g3⟩:=path_leads (hL q hq1 (by omega)) hq
  have g2':m'=m:=g2
  subst g2'
  exact skip m' g3 (by rw [hM];exact(stepM_alt h _ _).2 ⟨_,List.getElem_mem (by omega),g1⟩)
 ·refine tries (i+1) (c4 h) (fun k' e m g1 g3=>?_) (by
   rw [hM]
   by_cases hk:∃k',p.t.kids=[k']
   ·obtain⟨k',hk⟩:=hk;exact(stepM_star h hk _ _).2 (.refl _)
   ·exact(stepM_skip (.inl h) (fun k' hh=>hk ⟨k',hh⟩) _ _).2 rfl)
  cases g3 with
  | via hp' hm' hp'' =>
   rw [hp]at hp';cases hp'
   refine skip _ hp'' ?_
   rw [hM]at hm' ⊢
   exact(stepM_star h e _ _).2 (.step g1 ((stepM_star h e _ _).1 hm'))
 ·refine tries p.nx (c5 h) (fun k' e m g1 g3=>skip m g3 (by rw [hM];exact(stepM_maybe h e _ _).2 (.inr g1))) (by
   rw [hM]
   by_cases hk:∃k',p.t.kids=[k']
   ·obtain⟨k',hk⟩:=hk;exact(stepM_maybe h hk _ _).2 (.inl rfl)
   ·exact(stepM_skip (.inr h) (fun k' hh=>hk ⟨k',hh⟩) _ _).2 rfl)
 ·have:=c6 h1 h2 h3 h4 h5
  cases this
  cases hr
def Closed (s:ByteArray)(L:List Pl)(H:Nat→Nat→Prop):Prop:=∀(i:Nat) (p:Pl) (k:Nat),L[i]? =some p→H (i+1) k→∃sh,Shaped L i p sh∧(sh=.wait→ChAt s p.t.x.text k→H p.nx (k+1))∧(∀l,sh=.ways l→∀r,r∈l→H r k)
theorem leads_compl {H:Nat→Nat→Prop}{R:Pat→Nat→Nat→Prop}:∀ {l:List Pat} {r n k m:Nat},(∀t,t∈l→∀j q k m,L[j]? =some q→q.t=t→R t k m→H (j+1) k→H q.nx m)→Leads L r l n→SeqR R l k m→H r k→H n m
 | [],_,_,_,_,_,hl,hs,h=>by rw [←show _=_ from hl,←show _=_ from hs];exact h
 | t :: ks, _, _, _, _, ih, ⟨j, q, h1, h2, h3, h4⟩, ⟨k', g1, g2⟩, h => by
  subst h1
  exact leads_compl (fun t ht=>ih t (by simp [ht])) h4 g2 (ih t (by simp) j q _ _ h2 h3 g1 h)
theorem compl_step {H:Nat→Nat→Prop}{R:Pat→Nat→Nat→Prop}(hc:Closed s L H)(i:Nat)(p:Pl)(k m:Nat)(hp:L[i]? =some p)
  (ih:∀t,t∈p.t.kids→∀j q k m,L[j]? =some q→q.t=t→R t k m→H (j+1) k→H q.nx m) (hm:StepM s R p.t k m) (hh:H (i+1) k):H p.nx m:=by
 have tries:∀b a,Tries L p.t.kids b p.nx a→∀q,(∀l,a=.ways l→∀r,r∈l→H r q)→H p.nx q∧∀k' m',p.t.kids=[k']→R k' q m'→H b m':=fun b a ht q hw=>by
  unfold Tries at ht
  split at ht
  ·rename_i k' e
   obtain⟨r,rfl,hl⟩:=ht
   refine⟨hw _ rfl _ (by simp),fun k'' m' e' hr=>?_⟩
   obtain rfl:k'=k'':=by rw [e]at e';cases e';rfl
   exact leads_compl (l:=[k']) (R:=R) (fun t ht=>ih t (by rw [e];exact ht)) hl ⟨m',hr,rfl⟩ (hw _ rfl r (by simp))
  ·rename_i hk
   subst ht
   exact⟨hw _ rfl _ (by simp),fun k'' m' e'=>absurd e' (hk k'')⟩
 rcases op_cases p.t.x.op with h|h|h|h|h|⟨h1,h2,h3,h4,h5⟩
 ·obtain⟨sh,hs,hw,_⟩:=hc i p k hp hh
  obtain⟨g1,rfl⟩:=(stepM_chars h _ _).1 hm
  exact hw (hs.1 h) g1
 ·obtain⟨sh,hs,_,hw⟩:=hc i p k hp hh
  obtain⟨r,rfl,hl⟩:=hs.2.1 h
  exact leads_compl ih hl ((stepM_seq h _ _).1 hm) (hw _ rfl r (by simp))
 ·obtain⟨sh,hs,_,hw⟩:=hc i p k hp hh
  obtain⟨l,rfl,hl,hL⟩:=hs.2.2.1 h
  obtain⟨t,ht,hr⟩:=(stepM_alt h _ _).1 hm
  obtain⟨q,hq,rfl⟩:=List.getElem_of_mem ht
  exact leads_compl (l:=[p.t.kids[q]]) (R:=R) (fun t ht=>ih t (by rw [List.mem_singleton.1 ht];exact List.getElem_mem hq)) (hL q (by omega) hq) ⟨m,hr,rfl⟩ (hw _ rfl _ (List.getElem_mem (by omega)))
 ·have main:∀a b,(a=b∨∃k',p.t.kids=[k']∧Rtc (R k') a b)→H (i+1) a→H p.nx b:=by
   rintro a b (rfl|⟨k',hk,hr⟩) ha
   ·obtain⟨sh,hs,_,hw⟩:=hc i p a hp ha
    exact(tries _ _ (hs.2.2.2.1 h) a hw).1
   ·induction hr with
    | refl a =>
     obtain⟨sh,hs,_,hw⟩:=hc i p a hp ha
     exact(tries _ _ (hs.2.2.2.1 h) a hw).1
    | @step a b c hr _ ihr =>
     obtain⟨sh,hs,_,hw⟩:=hc i p a hp ha
     exact ihr ((tries _ _ (hs.2.2.2.1 h) a hw).2 k' b hk hr)
  refine main k m ?_ hh
  by_cases hk:∃k',p.t.kids=[k']
  ·obtain⟨k',hk⟩:=hk;exact .inr ⟨k',hk,(stepM_star h hk _ _).1 hm⟩
  ·exact .inl ((stepM_skip (.inl h) (fun k' hh=>hk ⟨k',hh⟩) _ _).1 hm)
 ·obtain⟨sh,hs,_,hw⟩:=hc i p k hp hh
  have ht:=tries _ _ (hs.2.2.2.2.1 h) k hw
  by_cases hk:∃k',p.t.kids=[k']
  ·obtain⟨k',hk⟩:=hk
   rcases(stepM_maybe h hk _ _).1 hm with rfl|hr
   ·exact ht.1
   ·exact ht.2 k' m hk hr
  ·have e:=(stepM_skip (.inr h) (fun k' hh=>hk ⟨k',hh⟩) _ _).1 hm
   rw [←e];exact ht.1
 ·exact absurd hm (stepM_other h1 h2 h3 h4 h5 _ _)
theorem compl {H:Nat→Nat→Prop}(hc:Closed s L H):∀(e i:Nat) (p:Pl) (k m:Nat),L[i]? =some p→DeepL e p.t.kids→Mt s e p.t k m→H (i+1) k→H p.nx m
 | 0,i,p,k,m,hp,hd,hm,hh=>compl_step hc i p k m hp (fun t ht=>by rw [show p.t.kids=[]from hd]at ht;cases ht) hm hh
 | e+1,i,p,k,m,hp,hd,hm,hh=>compl_step hc i p k m hp (fun t ht j q k m hq e' hr hj=>by subst e';exact compl hc e j q k m hq (hd _ ht) hr hj) hm hh
end
def GoodM (s:ByteArray)(D:Nat)(T:Pat)(L:List Pl)(r k:Nat):Prop:=∀j,Path s D L r k j→Mt s D T 0 j
end Mac
end
section
open Go.RowKit

structure Mc where
 pl:List Pl
 reached:List Nat
 waiting:List Nat
 pos:Nat
 en:Int
namespace Mac
def call (S:Mc):Nat→Mc
 | 0=>{ S with en:=S.pos }
 | i + 1 => match S.pl[i]? with
  | some p=>if p.vis<S.pos then { S with pl:=S.pl.set i { p with vis:=S.pos },reached:=S.reached++ [i] } else S
  | none=>S
def Called (S:Mc):Nat→Prop
 | 0=>S.en=S.pos
 | i+1=>∃p,S.pl[i]? =some p∧p.vis=S.pos
def Done (S:Mc)(i:Nat)(p:Pl):Prop:=∃sh,p.sh=some sh∧(sh=.wait→i∈S.waiting)∧(∀l,sh=.ways l→∀r,r∈l→Called S r)
def sumL (f:Pl→Nat)(l:List Pl):Nat:=(l.map f).sum
theorem sumL_set {f:Pl→Nat}:∀ {l:List Pl} {i:Nat} {p:Pl},l[i]? =some p→∀q,sumL f (l.set i q)+f p=sumL f l+f q
 | [],_,_,h,_=>by simp at h
 | x :: l, 0, p, h, q => by
  have h':x=p:=by simpa using h
  subst h'
  simp [sumL];omega
 | x :: l, i + 1, p, h, q => by
  have ih:=sumL_set (f:=f) (l:=l) (i:=i) (p:=p) (by simpa using h) q
  simp only [sumL,List.set_cons_succ,List.map_cons,List.sum_cons]at ih ⊢
  omega
theorem sumL_app (f:Pl→Nat)(l m:List Pl):sumL f (l++m)=sumL f l+sumL f m:=by simp [sumL]
theorem sumL_le {f g:Pl→Nat}:∀ {l:List Pl},(∀p,p∈l→f p≤g p)→sumL f l≤sumL g l
 | [],_=>Nat.le_refl _
 | x :: l, h => by
  have ih:=sumL_le (f:=f) (g:=g) (l:=l) (fun p hp=>h p (by simp [hp]))
  have:=h x (by simp)
  simp only [sumL,List.map_cons,List.sum_cons]at ih ⊢
  omega
def uw (k:Nat)(p:Pl):Nat:=if p.vis<k then 1 else 0
def rw' (p:Pl):Nat:=if p.sh.isNone then cntL p.e p.t.kids else 0
def nw (p:Pl):Nat:=1+cntL p.e p.t.kids
def unv (S:Mc):Nat:=sumL (uw S.pos) S.pl
def mu (S:Mc):Nat:=2*(unv S+sumL rw' S.pl)+S.reached.length
theorem sumL_one:∀l:List Pl,sumL (fun _=>1) l=l.length
 | []=>rfl
 | x :: l => by
  have ih:=sumL_one l
  simp only [sumL,List.map_cons,List.sum_cons,List.length_cons]at ih ⊢
  omega
theorem sumL_nw:∀l:List Pl,l.length+sumL (fun q=>cntL q.e q.t.kids) l=sumL nw l
 | []=>rfl
 | x :: l => by
  have ih:=sumL_nw l
  have e:nw x=1+cntL x.e x.t.kids:=rfl
  simp only [sumL,List.map_cons,List.sum_cons,List.length_cons]at ih ⊢
  omega
theorem unv_le (S:Mc):unv S≤S.pl.length:=by
 have h:sumL (uw S.pos) S.pl≤sumL (fun _=>1) S.pl:=sumL_le fun p _=>by unfold uw;split<;>omega
 have h2:sumL (fun _=>1) S.pl=S.pl.length:=sumL_one _
 unfold unv;omega
structure Inv (s:ByteArray) (D N:Nat) (T:Pat) (H:Nat→Nat→Prop) (X:Option Nat) (Wq:List Nat) (S:Mc):Prop where
 ord:Ord S.pl
 deep:∀(i:Nat) (p:Pl),S.pl[i]? =some p→p.e≤D∧DeepL p.e p.t.kids
 shp:∀(i:Nat) (p:Pl) (sh:Vs),S.pl[i]? =some p→p.sh=some sh→Shaped S.pl i p sh
 vle:∀(i:Nat) (p:Pl),S.pl[i]? =some p→-1≤p.vis∧p.vis≤S.pos
 ele:-1≤S.en∧S.en≤S.pos
 ple:S.pos≤s.size
 hlt:∀r q,H r q→q<S.pos∧r≤S.pl.length
 past:∀(i:Nat) (p:Pl) (q:Nat),S.pl[i]? =some p→H (i+1) q→∃sh,p.sh=some sh∧(sh=.wait→ChAt s p.t.x.text q→H p.nx (q+1)∨(q+1=S.pos∧(Called S p.nx∨i∈Wq)))∧(∀l,sh=.ways l→∀r,r∈l→H r q)
 now:∀(i:Nat) (p:Pl),S.pl[i]? =some p→p.vis=S.pos→X=some i∨i∈S.reached∨Done S i p
 rch:∀i,i∈S.reached→∃p,S.pl[i]? =some p∧p.vis=S.pos
 wt:∀i,i∈S.waiting→∃p,S.pl[i]? =some p∧p.t.x.op=1∧GoodM s D T S.pl (i+1) S.pos
 good:∀r,Called S r→GoodM s D T S.pl r S.pos
 cnt:S.waiting.length+S.reached.length+unv S+(if X.isSome then 1 else 0)≤S.pl.length
 tot:S.pl.length+sumL rw' S.pl≤N
section
variable {s:ByteArray} {D N:Nat} {T:Pat} {H:Nat→Nat→Prop} {X:Option Nat} {Wq:List Nat} {S:Mc}
theorem called_le {r:Nat}(h:Called S r):r≤S.pl.length:=by
 cases r with
 | zero=>exact Nat.zero_le _
 | succ i=>obtain⟨p,hp,_⟩:=h;have:=(List.getElem?_eq_some_iff.1 hp).1;omega
theorem set_back {L:List Pl}{i j:Nat}{p p' q':Pl}(hp:L[i]? =some p)(h:(L.set i p')[j]? =some q'):(j=i∧q'=p')∨(j≠i∧L[j]? =some q'):=by
 by_cases e:i=j
 ·subst e
  rw [List.getElem?_set_self (List.getElem?_eq_some_iff.1 hp).1]at h
  cases h;exact .inl ⟨rfl,rfl⟩
 ·rw [List.getElem?_set_ne e]at h
  exact .inr ⟨fun e'=>e e'.symm,h⟩
theorem call_spec (S:Mc)(r:Nat)(hr:r≤S.pl.length)(hv:∀(i:Nat) (p:Pl),S.pl[i]? =some p→p.vis≤S.pos):
  (Called S r∧call S r=S)∨(r=0∧call S r={ S with en:=S.pos })∨
  ∃i p,r=i+1∧S.pl[i]? =some p∧p.vis<S.pos∧call S r={ S with pl:=S.pl.set i { p with vis:=S.pos },reached:=S.reached++ [i] }:=by
 cases r with
 | zero=>exact .inr (.inl ⟨rfl,rfl⟩)
 | succ i =>
  have hp:S.pl[i]? =some S.pl[i]:=List.getElem?_eq_getElem (by omega)
  generalize S.pl[i]=p at hp
  by_cases h:p.vis<S.pos
  ·exact .inr (.inr ⟨i,p,rfl,hp,h,by simp only [call,hp];rw [if_pos h]⟩)
  ·exact .inl ⟨⟨p,hp,by have:=hv i p hp;omega⟩,by simp only [call,hp];rw [if_neg h]⟩
structure Stp (S S':Mc):Prop where
 ext:Ext S.pl S'.pl
 len:S'.pl.length=S.pl.length
 pos:S'.pos=S.pos
 wait:S'.waiting=S.waiting
 kept:∀r,Called S r→Called S' r
 mu:mu S'≤mu S
theorem Stp.refl (S:Mc):Stp S S:=⟨Ext.refl _,rfl,rfl,rfl,fun _ h=>h,Nat.le_refl _⟩
theorem Stp.trans {S S' S'':Mc}(h:Stp S S')(h':Stp S' S''):Stp S S'':=⟨h.ext.trans h'.ext,h'.len.trans h.len,h'.pos.trans h.pos,h'.wait.trans h.wait,fun r hr=>h'.kept r (h.kept r hr),Nat.le_trans h'.mu h.mu⟩
theorem inv_call (I:Inv s D N T H X Wq S){r:Nat}(hr:r≤S.pl.length)(hg:GoodM s D T S.pl r S.pos):Inv s D N T H X Wq (call S r)∧Called (call S r) r∧Stp S (call S r):=by
 rcases call_spec S r hr (fun i p hp=>(I.vle i p hp).2)with ⟨h1,h2⟩|⟨rfl,h2⟩|⟨i,p,rfl,hp,hv,h2⟩
 ·rw [h2];exact⟨I,h1,Stp.refl S⟩
 ·rw [h2]
  have hk:∀r,Called S r→Called { S with en:=S.pos } r:=fun r hr=>by
   cases r with
   | zero=>rfl
   | succ i=>exact hr
  have hD:∀i p,Done S i p→Done { S with en:=S.pos } i p:=fun i p ⟨sh,a,b,c⟩=>⟨sh,a,b,fun l e r hr=>hk r (c l e r hr)⟩
  refine⟨⟨I.ord,I.deep,I.shp,I.vle,⟨by show(-1:Int)≤(S.pos:Int);omega,Int.le_refl _⟩,I.ple,I.hlt,fun i p q hp hh=>?_,fun i p hp hv=>?_,I.rch,I.wt,fun r hr=>?_,I.cnt,I.tot⟩,rfl,⟨Ext.refl _,rfl,rfl,rfl,hk,Nat.le_refl _⟩⟩
  ·obtain⟨sh,a,b,c⟩:=I.past i p q hp hh
   refine⟨sh,a,fun e h=>?_,c⟩
   rcases b e h with h1|⟨h1,h1'|h1'⟩
   ·exact .inl h1
   ·exact .inr ⟨h1,.inl (hk _ h1')⟩
   ·exact .inr ⟨h1,.inr h1'⟩
  ·rcases I.now i p hp hv with h1|h1|h1
   ·exact .inl h1
   ·exact .inr (.inl h1)
   ·exact .inr (.inr (hD i p h1))
  ·cases r with
   | zero=>exact hg
   | succ i=>exact I.good (i+1) hr
 ·rw [h2]
  have he:Ext S.pl (S.pl.set i { p with vis:=S.pos }):=ext_set hp rfl rfl
  have hlen:(S.pl.set i { p with vis:=S.pos }).length=S.pl.length:=List.length_set
  have hil:=(List.getElem?_eq_some_iff.1 hp).1
  have hk:∀r,Called S r→Called { S with pl:=S.pl.set i { p with vis:=S.pos },reached:=S.reached++ [i] } r:=fun r hr=>by
   cases r with
   | zero=>exact hr
   | succ j =>
    obtain⟨q,hq,hqv⟩:=hr
    by_cases e:i=j
    ·subst e
     exact⟨{ p with vis:=S.pos },by show(S.pl.set i _)[i]? =_;rw [List.getElem?_set_self hil],rfl⟩
    ·exact⟨q,by show(S.pl.set i _)[j]? =_;rw [List.getElem?_set_ne e];exact hq,hqv⟩
  have hD:∀j q q',q'.sh=q.sh→Done S j q→Done { S with pl:=S.pl.set i { p with vis:=S.pos },reached:=S.reached++ [i] } j q':=fun j q q' e ⟨sh,a,b,c⟩=>⟨sh,e.trans a,b,fun l e r hr=>hk r (c l e r hr)⟩
  have hgood:∀r,r≤S.pl.length→GoodM s D T S.pl r S.pos→GoodM s D T (S.pl.set i { p with vis:=S.pos }) r S.pos:=fun r hr hg=>fun j hj=>hg j (hj.back I.ord he hr)
  have hu:unv { S with pl:=S.pl.set i { p with vis:=S.pos },reached:=S.reached++ [i] }+1=unv S:=by
   have:=sumL_set (f:=uw S.pos) hp { p with vis:=S.pos }
   have h1:uw S.pos p=1:=by unfold uw;rw [if_pos hv]
   have h2:uw S.pos { p with vis:=S.pos }=0:=by unfold uw;rw [if_neg (Int.lt_irrefl _)]
   unfold unv
   show sumL (uw S.pos) (S.pl.set i { p with vis:=S.pos })+1=_
   omega
  have hrw:sumL rw' (S.pl.set i { p with vis:=S.pos })=sumL rw' S.pl:=by
   have:=sumL_set (f:=rw') hp { p with vis:=S.pos }
   have h1:rw' { p with vis:=S.pos }=rw' p:=rfl
   omega
  refine⟨⟨fun j q hq=>?_,fun j q hq=>?_,fun j q sh hq hs=>?_,fun j q hq=>?_,I.ele,I.ple,fun r q hh=>?_,fun j q k hq hh=>?_,fun j q hq hvq=>?_,fun j hj=>?_,fun j hj=>?_,fun r hr=>?_,?_,?_⟩,?_,⟨he,hlen,rfl,rfl,hk,?_⟩⟩
  ·rcases set_back hp hq with ⟨rfl,rfl⟩|⟨_,hq⟩
   ·exact I.ord j p hp
   ·exact I.ord j q hq
  ·rcases set_back hp hq with ⟨rfl,rfl⟩|⟨_,hq⟩
   ·exact I.deep j p hp
   ·exact I.deep j q hq
  ·rcases set_back hp hq with ⟨rfl,rfl⟩|⟨_,hq⟩
   ·exact(I.shp j p sh hp hs).ext he rfl rfl
   ·exact(I.shp j q sh hq hs).ext he rfl rfl
  ·rcases set_back hp hq with ⟨rfl,rfl⟩|⟨_,hq⟩
   ·exact⟨by show(-1:Int)≤(S.pos:Int);omega,Int.le_refl _⟩
   ·exact I.vle j q hq
  ·rw [hlen];exact I.hlt r q hh
  ·have key:∀q0:Pl,S.pl[j]? =some q0→q.sh=q0.sh→q.t=q0.t→q.nx=q0.nx→∃sh,q.sh=some sh∧(sh=.wait→ChAt s q.t.x.text k→H q.nx (k+1)∨(k+1=S.pos∧(Called { S with pl:=S.pl.set i { p with vis:=S.pos },reached:=S.reached++ [i] } q.nx∨j∈Wq)))∧(∀l,sh=.ways l→∀r,r∈l→H r k):=fun q0 h0 e1 e2 e3=>by
    obtain⟨sh,a,b,c⟩:=I.past j q0 k h0 hh
    refine(⟨sh,e1.trans a,fun e h=>?_,c⟩:∃sh,q.sh=some sh∧(sh=.wait→ChAt s q.t.x.text k→H q.nx (k+1)∨(k+1=S.pos∧(Called { S with pl:=S.pl.set i { p with vis:=S.pos },reached:=S.reached++ [i] } q.nx∨j∈Wq)))∧(∀l,sh=.ways l→∀r,r∈l→H r k))
    rw [e2]at h
    rw [e3]
    rcases b e h with h1|⟨h1,h1'|h1'⟩
    ·exact .inl h1
    ·exact .inr ⟨h1,.inl (hk _ h1')⟩
    ·exact .inr ⟨h1,.inr h1'⟩
   rcases set_back hp hq with ⟨rfl,rfl⟩|⟨_,hq⟩
   ·exact key p hp rfl rfl rfl
   ·exact key q hq rfl rfl rfl
  ·rcases set_back hp hq with ⟨rfl,rfl⟩|⟨_,hq⟩
   ·exact .inr (.inl (by simp))
   ·rcases I.now j q hq hvq with h1|h1|h1
    ·exact .inl h1
    ·exact .inr (.inl (by simp [h1]))
    ·exact .inr (.inr (hD j q q rfl h1))
  ·have hj':j∈S.reached++ [i]:=hj
   rcases List.mem_append.1 hj' with h|h
   ·exact hk (j+1) (I.rch j h)
   ·rw [List.mem_singleton.1 h]
    exact⟨{ p with vis:=S.pos },by show(S.pl.set i _)[i]? =_;rw [List.getElem?_set_self hil],rfl⟩
  ·obtain⟨q,hq,ho,hg'⟩:=I.wt j hj
   obtain⟨q',g1,g2,g3⟩:=he j q hq
   exact⟨q',g1,by rw [g2];exact ho,hgood _ (by have:=(List.getElem?_eq_some_iff.1 hq).1;omega) hg'⟩
  ·cases r with
   | zero=>exact hgood 0 (Nat.zero_le _) (I.good 0 hr)
   | succ j =>
    obtain⟨q,hq,hqv⟩:=hr
    rcases set_back hp hq with ⟨rfl,rfl⟩|⟨_,hq⟩
    ·exact hgood (j+1) (by omega) hg
    ·exact hgood (j+1) (by have:=(List.getElem?_eq_some_iff.1 hq).1;omega) (I.good (j+1) ⟨q,hq,hqv⟩)
  ·have:=I.cnt
   show S.waiting.length+(S.reached++ [i]).length+unv _+_≤(S.pl.set i _).length
   rw [hlen,List.length_append,List.length_singleton];omega
  ·show(S.pl.set i _).length+sumL rw' (S.pl.set i _)≤N
   rw [hlen,hrw];exact I.tot
  ·exact⟨{ p with vis:=S.pos },by show(S.pl.set i _)[i]? =_;rw [List.getElem?_set_self hil],rfl⟩
  ·unfold mu
   show 2*(unv _+sumL rw' (S.pl.set i _))+(S.reached++ [i]).length≤_
   rw [hrw,List.length_append,List.length_singleton];omega
theorem inv_calls:∀ {l:List Nat} {S:Mc},Inv s D N T H X Wq S→(∀r,r∈l→r≤S.pl.length∧GoodM s D T S.pl r S.pos)→Inv s D N T H X Wq (l.foldl call S)∧(∀r,r∈l→Called (l.foldl call S) r)∧Stp S (l.foldl call S)
 | [],S,I,_=>⟨I,fun r hr=>(List.not_mem_nil hr).elim,Stp.refl S⟩
 | r :: l, S, I, h => by
  obtain⟨I1,c1,st⟩:=inv_call I (h r (by simp)).1 (h r (by simp)).2
  have h':∀r',r'∈l→r'≤(call S r).pl.length∧GoodM s D T (call S r).pl r' (call S r).pos:=fun r' hr'=>by
   have h0:=h r' (by simp [hr'])
   exact⟨by rw [st.len];exact h0.1,by rw [st.pos];exact fun j hj=>h0.2 j (hj.back I.ord st.ext h0.1)⟩
  obtain⟨I2,c2,st2⟩:=inv_calls (l:=l) I1 h'
  refine⟨I2,fun r' hr'=>?_,st.trans st2⟩
  rcases List.mem_cons.1 hr' with rfl|hr'
  ·exact st2.kept _ c1
  ·exact c2 r' hr'
theorem inv_pop {R:List Nat}{i:Nat}(I:Inv s D N T H none Wq S)(hR:S.reached=R++ [i]):Inv s D N T H (some i) Wq { S with reached:=R }∧Called { S with reached:=R } (i+1)∧mu { S with reached:=R }+1=mu S:=by
 obtain⟨p,hp,hv⟩:=I.rch i (by rw [hR];simp)
 have hl:S.reached.length=R.length+1:=by rw [hR];simp
 refine⟨⟨I.ord,I.deep,I.shp,I.vle,I.ele,I.ple,I.hlt,I.past,fun j q hq hvq=>?_,fun j hj=>I.rch j (by rw [hR];exact List.mem_append_left _ hj),I.wt,I.good,?_,I.tot⟩,⟨p,hp,hv⟩,?_⟩
 ·rcases I.now j q hq hvq with h1|h1|h1
  ·cases h1
  ·rw [hR]at h1
   rcases List.mem_append.1 h1 with h|h
   ·exact .inr (.inl h)
   ·rw [List.mem_singleton.1 h];exact .inl rfl
  ·exact .inr (.inr h1)
 ·have:=I.cnt
  have e:unv { S with reached:=R }=unv S:=rfl
  show S.waiting.length+R.length+unv _+1≤S.pl.length
  rw [e];rw [hl]at this;simp at this;omega
 ·unfold mu
  have e:unv { S with reached:=R }=unv S:=rfl
  show 2*(unv _+sumL rw' S.pl)+R.length+1=_
  rw [e,hl];omega
structure News (D:Nat) (S:Mc) (p:Pl) (nn:List Pl):Prop where
 each:∀q,q∈nn→q.vis=-1∧q.sh=none∧q.e≤D∧DeepL q.e q.t.kids
 ord:Ord (S.pl++nn)
 few:sumL nw nn≤cntL p.e p.t.kids
theorem inv_made {i:Nat}{p:Pl}{nn:List Pl}{sh:Vs}(I:Inv s D N T H (some i) Wq S)(hp:S.pl[i]? =some p)(h0:p.sh=none)(hn:News D S p nn)(hsh:Shaped (S.pl++nn) i p sh):
  Inv s D N T H (some i) Wq { S with pl:=(S.pl++nn).set i { p with sh:=some sh } }∧Ext S.pl ((S.pl++nn).set i { p with sh:=some sh })∧(∀r,Called S r→Called { S with pl:=(S.pl++nn).set i { p with sh:=some sh } } r)∧mu { S with pl:=(S.pl++nn).set i { p with sh:=some sh } }≤mu S:=by
 have hil:=(List.getElem?_eq_some_iff.1 hp).1
 have hp2:(S.pl++nn)[i]? =some p:=by rw [List.getElem?_append_left hil];exact hp
 have he2:Ext (S.pl++nn) ((S.pl++nn).set i { p with sh:=some sh }):=ext_set hp2 rfl rfl
 have he:Ext S.pl ((S.pl++nn).set i { p with sh:=some sh }):=(ext_append _ _).trans he2
 have hlen:((S.pl++nn).set i { p with sh:=some sh }).length=S.pl.length+nn.length:=by rw [List.length_set,List.length_append]
 have back:∀j q,((S.pl++nn).set i { p with sh:=some sh })[j]? =some q→(j=i∧q={ p with sh:=some sh })∨(j≠i∧S.pl[j]? =some q)∨(S.pl.length≤j∧q∈nn):=fun j q hq=>by
  rcases set_back hp2 hq with h|⟨h,hq⟩
  ·exact .inl h
  ·by_cases hj:j<S.pl.length
   ·rw [List.getElem?_append_left hj]at hq;exact .inr (.inl ⟨h,hq⟩)
   ·rw [List.getElem?_append_right (by omega)]at hq;exact .inr (.inr ⟨by omega,List.mem_of_getElem? hq⟩)
 have hk:∀r,Called S r→Called { S with pl:=(S.pl++nn).set i { p with sh:=some sh } } r:=fun r hr=>by
  cases r with
  | zero=>exact hr
  | succ j =>
   obtain⟨q,hq,hqv⟩:=hr
   have hjl:=(List.getElem?_eq_some_iff.1 hq).1
   by_cases e:i=j
   ·subst e
    rw [hp]at hq;cases hq
    exact⟨{ p with sh:=some sh },by show((S.pl++nn).set i _)[i]? =_;rw [List.getElem?_set_self (by rw [List.length_append];omega)],hqv⟩
   ·exact⟨q,by show((S.pl++nn).set i _)[j]? =_;rw [List.getElem?_set_ne e,List.getElem?_append_left hjl];exact hq,hqv⟩
 have hgood:∀r,r≤S.pl.length→GoodM s D T S.pl r S.pos→GoodM s D T ((S.pl++nn).set i { p with sh:=some sh }) r S.pos:=fun r hr hg=>fun j hj=>hg j (hj.back I.ord he hr)
 have hnl:=sumL_nw nn
 have hru:sumL rw' nn≤sumL (fun q=>cntL q.e q.t.kids) nn:=sumL_le fun q _=>by unfold rw';split<;>omega
 have hr0:rw' p=cntL p.e p.t.kids:=by unfold rw';rw [h0];rfl
 have hr1:rw' { p with sh:=some sh }=0:=rfl
 have hsr:=sumL_set (f:=rw') hp2 { p with sh:=some sh }
 rw [sumL_app,hr0,hr1]at hsr
 have hsu:=sumL_set (f:=uw S.pos) hp2 { p with sh:=some sh }
 have hu1:uw S.pos { p with sh:=some sh }=uw S.pos p:=rfl
 rw [sumL_app,hu1]at hsu
 have huu:sumL (uw S.pos) nn≤nn.length:=by
  have h:sumL (uw S.pos) nn≤sumL (fun _=>1) nn:=sumL_le fun p _=>by unfold uw;split<;>omega
  have h2:sumL (fun _=>1) nn=nn.length:=sumL_one _
  omega
 have hfew:=hn.few
 refine⟨⟨fun j q hq=>?_,fun j q hq=>?_,fun j q sh' hq hs=>?_,fun j q hq=>?_,I.ele,I.ple,fun r q hh=>?_,fun j q k hq hh=>?_,fun j q hq hvq=>?_,fun j hj=>hk (j+1) (I.rch j hj),fun j hj=>?_,fun r hr=>?_,?_,?_⟩,he,hk,?_⟩
 ·rcases set_back hp2 hq with ⟨rfl,rfl⟩|⟨_,hq⟩
  ·exact I.ord j p hp
  ·exact hn.ord j q hq
 ·rcases back j q hq with ⟨rfl,rfl⟩|⟨_,hq⟩|⟨_,hq⟩
  ·exact I.deep j p hp
  ·exact I.deep j q hq
  ·exact(hn.each q hq).2.2
 ·rcases back j q hq with ⟨rfl,rfl⟩|⟨_,hq⟩|⟨_,hq⟩
  ·cases hs;exact hsh.ext he2 rfl rfl
  ·exact(I.shp j q sh' hq hs).ext he rfl rfl
  ·rw [(hn.each q hq).2.1]at hs;cases hs
 ·rcases back j q hq with ⟨rfl,rfl⟩|⟨_,hq⟩|⟨_,hq⟩
  ·exact I.vle j p hp
  ·exact I.vle j q hq
  ·rw [(hn.each q hq).1];exact⟨Int.le_refl _,by show(-1:Int)≤(S.pos:Int);omega⟩
 ·have:=I.hlt r q hh
  exact⟨this.1,by show r≤((S.pl++nn).set i _).length;rw [hlen];omega⟩
 ·have key:∀q0:Pl,S.pl[j]? =some q0→(∀x,q0.sh=some x→q.sh=some x)→q.t=q0.t→q.nx=q0.nx→∃sh',q.sh=some sh'∧(sh'=.wait→ChAt s q.t.x.text k→H q.nx (k+1)∨(k+1=S.pos∧(Called { S with pl:=(S.pl++nn).set i { p with sh:=some sh } } q.nx∨j∈Wq)))∧(∀l,sh'=.ways l→∀r,r∈l→H r k):=fun q0 hq0 e1 e2 e3=>by
   obtain⟨sh',a,b,c⟩:=I.past j q0 k hq0 hh
   refine⟨sh',e1 sh' a,fun e h=>?_,c⟩
   rw [e2]at h
   rw [e3]
   rcases b e h with h1|⟨h1,h1'|h1'⟩
   ·exact .inl h1
   ·exact .inr ⟨h1,.inl (hk _ h1')⟩
   ·exact .inr ⟨h1,.inr h1'⟩
  rcases back j q hq with ⟨rfl,rfl⟩|⟨_,hq⟩|⟨hj,hq⟩
  ·exact key p hp (fun x hx=>by rw [h0]at hx;cases hx) rfl rfl
  ·exact key q hq (fun x hx=>hx) rfl rfl
  ·have:=(I.hlt _ _ hh).2;omega
 ·rcases back j q hq with ⟨rfl,rfl⟩|⟨_,hq⟩|⟨_,hq⟩
  ·exact .inl rfl
  ·rcases I.now j q hq hvq with h1|h1|⟨sh',a,b,c⟩
   ·exact .inl h1
   ·exact .inr (.inl h1)
   ·exact .inr (.inr ⟨sh',a,b,fun l e r hr=>hk r (c l e r hr)⟩)
  ·have:=(hn.each q hq).1
   have h2:q.vis=(S.pos:Int):=hvq
   omega
 ·obtain⟨q,hq,ho,hg'⟩:=I.wt j hj
  obtain⟨q',g1,g2,g3⟩:=he j q hq
  exact⟨q',g1,by rw [g2];exact ho,hgood _ (by have:=(List.getElem?_eq_some_iff.1 hq).1;omega) hg'⟩
 ·cases r with
  | zero=>exact hgood 0 (Nat.zero_le _) (I.good 0 hr)
  | succ j =>
   obtain⟨q,hq,hqv⟩:=hr
   rcases back j q hq with ⟨rfl,rfl⟩|⟨_,hq⟩|⟨_,hq⟩
   ·exact hgood (j+1) (by omega) (I.good (j+1) ⟨p,hp,hqv⟩)
   ·exact hgood (j+1) (by have:=(List.getElem?_eq_some_iff.1 hq).1;omega) (I.good (j+1) ⟨q,hq,hqv⟩)
   ·have:=(hn.each q hq).1
    have h2:q.vis=(S.pos:Int):=hqv
    omega
 ·have h1:=I.cnt
  have e:unv { S with pl:=(S.pl++nn).set i { p with sh:=some sh } }=sumL (uw S.pos) ((S.pl++nn).set i { p with sh:=some sh }):=rfl
  have e2:unv S=sumL (uw S.pos) S.pl:=rfl
  show S.waiting.length+S.reached.length+unv _+_≤((S.pl++nn).set i _).length
  rw [hlen,e];rw [e2]at h1;omega
 ·have h1:=I.tot
  show((S.pl++nn).set i _).length+sumL rw' ((S.pl++nn).set i _)≤N
  rw [hlen];omega
 ·unfold mu
  have e:unv { S with pl:=(S.pl++nn).set i { p with sh:=some sh } }=sumL (uw S.pos) ((S.pl++nn).set i { p with sh:=some sh }):=rfl
  have e2:unv S=sumL (uw S.pos) S.pl:=rfl
  show 2*(unv _+sumL rw' ((S.pl++nn).set i _))+S.reached.length≤_
  rw [e,e2];omega
theorem inv_wait {i:Nat}{p:Pl}(I:Inv s D N T H (some i) Wq S)(hp:S.pl[i]? =some p)(hs:p.sh=some .wait)(ho:p.t.x.op=1)(hc:Called S (i+1)):Inv s D N T H none Wq { S with waiting:=S.waiting++ [i] }:=by
 have hk:∀r,Called S r→Called { S with waiting:=S.waiting++ [i] } r:=fun r hr=>by cases r<;>exact hr
 have hb:∀r,Called { S with waiting:=S.waiting++ [i] } r→Called S r:=fun r hr=>by cases r<;>exact hr
 refine⟨I.ord,I.deep,I.shp,I.vle,I.ele,I.ple,I.hlt,fun j q k hq hh=>?_,fun j q hq hvq=>?_,I.rch,fun j hj=>?_,fun r hr=>I.good r (hb r hr),?_,I.tot⟩
 ·obtain⟨sh',a,b,c⟩:=I.past j q k hq hh
  refine⟨sh',a,fun e h=>?_,c⟩
  rcases b e h with h1|⟨h1,h1'|h1'⟩
  ·exact .inl h1
  ·exact .inr ⟨h1,.inl (hk _ h1')⟩
  ·exact .inr ⟨h1,.inr h1'⟩
 ·rcases I.now j q hq hvq with h1|h1|⟨sh',a,b,c⟩
  ·cases h1
   have:q=p:=by have:=hp.symm.trans hq;cases this;rfl
   subst this
   exact .inr (.inr ⟨.wait,hs,fun _=>(by simp),fun l e=>(by cases e)⟩)
  ·exact .inr (.inl h1)
  ·exact .inr (.inr ⟨sh',a,fun e=>List.mem_append_left _ (b e),fun l e r hr=>hk r (c l e r hr)⟩)
 ·have hj':j∈S.waiting++ [i]:=hj
  rcases List.mem_append.1 hj' with h|h
  ·exact I.wt j h
  ·rw [List.mem_singleton.1 h]
   exact⟨p,hp,ho,I.good _ hc⟩
 ·have:=I.cnt
  have e:unv { S with waiting:=S.waiting++ [i] }=unv S:=rfl
  show(S.waiting++ [i]).length+S.reached.length+unv _+0≤S.pl.length
  rw [e,List.length_append,List.length_singleton];simp at this;omega
theorem inv_ways {i:Nat}{p:Pl}{l:List Nat}(I:Inv s D N T H (some i) Wq S)(hp:S.pl[i]? =some p)(hs:p.sh=some (.ways l))(hc:∀r,r∈l→Called S r):Inv s D N T H none Wq S:=by
 refine⟨I.ord,I.deep,I.shp,I.vle,I.ele,I.ple,I.hlt,I.past,fun j q hq hvq=>?_,I.rch,I.wt,I.good,by have:=I.cnt;simp at this ⊢;omega,I.tot⟩
 rcases I.now j q hq hvq with h1|h1|h1
 ·cases h1
  have:q=p:=by have:=hp.symm.trans hq;cases this;rfl
  subst this
  exact .inr (.inr ⟨.ways l,hs,fun e=>(by cases e),fun l' e r hr=>(by cases e;exact hc r hr)⟩)
 ·exact .inr (.inl h1)
 ·exact .inr (.inr h1)
theorem ways_good {i:Nat}{p:Pl}{l:List Nat}(I:Inv s D N T H X Wq S)(hp:S.pl[i]? =some p)(hs:Shaped S.pl i p (.ways l))(hc:Called S (i+1)):∀r,r∈l→r≤S.pl.length∧GoodM s D T S.pl r S.pos:=fun r hr=>by
 have hil:=(List.getElem?_eq_some_iff.1 hp).1
 have hnx:=I.ord i p hp
 refine⟨?_,fun j hj=>I.good _ hc j (sound_ways hp (I.deep i p hp).2 (I.deep i p hp).1 hs hr hj)⟩
 obtain⟨c1,c2,c3,c4,c5,c6⟩:=hs
 have tries:∀b,b≤S.pl.length→Tries S.pl p.t.kids b p.nx (.ways l)→r≤S.pl.length:=fun b hb ht=>by
  unfold Tries at ht
  split at ht
  ·obtain⟨r',e',hl⟩:=ht
   cases e'
   rcases List.mem_cons.1 hr with rfl|hr
   ·exact hl.le hb
   ·rw [List.mem_singleton.1 hr];omega
  ·cases ht;rw [List.mem_singleton.1 hr];omega
 rcases op_cases p.t.x.op with h|h|h|h|h|⟨h1,h2,h3,h4,h5⟩
 ·cases c1 h
 ·obtain⟨r',e',hl⟩:=c2 h
  cases e'
  rw [List.mem_singleton.1 hr];exact hl.le (by omega)
 ·obtain⟨l',e',hl,hL⟩:=c3 h
  cases e'
  obtain⟨q,hq1,rfl⟩:=List.getElem_of_mem hr
  exact(hL q hq1 (by omega)).le (by omega)
 ·exact tries _ (by omega) (c4 h)
 ·exact tries _ (by omega) (c5 h)
 ·have:=c6 h1 h2 h3 h4 h5
  cases this
  cases hr
theorem inv_next (I:Inv s D N T H none [] S)(hR:S.reached=[])(hlt:S.pos<s.size):Inv s D N T (fun r q=>H r q∨(q=S.pos∧Called S r)) none S.waiting { S with waiting:=[],pos:=S.pos+1 }:=by
 have hno:∀r,¬Called { S with waiting:=[],pos:=S.pos+1 } r:=fun r hr=>by
  cases r with
  | zero=>have h1:S.en=((S.pos+1:Nat):Int):=hr;have:=I.ele.2;omega
  | succ i=>obtain⟨p,hp,hv⟩:=hr;have h1:p.vis=((S.pos+1:Nat):Int):=hv;have:=(I.vle i p hp).2;omega
 refine⟨I.ord,I.deep,I.shp,fun j q hq=>?_,?_,hlt,fun r q hh=>?_,fun j q k hq hh=>?_,fun j q hq hvq=>?_,fun j hj=>?_,fun j hj=>?_,fun r hr=>absurd hr (hno r),?_,I.tot⟩
 ·have:=I.vle j q hq
  exact⟨this.1,by show q.vis≤((S.pos+1:Nat):Int);omega⟩
 ·have:=I.ele
  exact⟨this.1,by show S.en≤((S.pos+1:Nat):Int);omega⟩
 ·rcases hh with hh|⟨rfl,hh⟩
  ·have:=I.hlt r q hh
   exact⟨by show q<S.pos+1;omega,this.2⟩
  ·exact⟨by show S.pos<S.pos+1;omega,called_le (S:=S) hh⟩
 ·rcases hh with hh|⟨rfl,hh⟩
  ·obtain⟨sh,a,b,c⟩:=I.past j q k hq hh
   refine⟨sh,a,fun e h=>?_,fun l e r hr=>.inl (c l e r hr)⟩
   rcases b e h with h1|⟨h1,h1'|h1'⟩
   ·exact .inl (.inl h1)
   ·exact .inl (.inr ⟨h1,h1'⟩)
   ·cases h1'
  ·obtain⟨p,hp,hv⟩:=hh
   have:q=p:=by have:=hp.symm.trans hq;cases this;rfl
   subst this
   rcases I.now j q hq hv with h1|h1|⟨sh,a,b,c⟩
   ·cases h1
   ·rw [hR]at h1;cases h1
   ·exact⟨sh,a,fun e _=>.inr ⟨rfl,.inr (b e)⟩,fun l e r hr=>.inr ⟨rfl,c l e r hr⟩⟩
 ·exact absurd ⟨q,hq,hvq⟩ (hno (j+1))
 ·rw [show({ S with waiting:=[],pos:=S.pos+1 }:Mc).reached=[]from hR]at hj;cases hj
 ·cases hj
 ·have:=unv_le { S with waiting:=[],pos:=S.pos+1 }
  show 0+S.reached.length+unv _+0≤S.pl.length
  rw [hR];simp at this ⊢;exact this
theorem inv_drop {i:Nat}{p:Pl}(I:Inv s D N T H none (i::Wq) S)(hp:S.pl[i]? =some p)(h:∀k,k+1=S.pos→ChAt s p.t.x.text k→Called S p.nx):Inv s D N T H none Wq S:=by
 refine⟨I.ord,I.deep,I.shp,I.vle,I.ele,I.ple,I.hlt,fun j q k hq hh=>?_,I.now,I.rch,I.wt,I.good,I.cnt,I.tot⟩
 obtain⟨sh,a,b,c⟩:=I.past j q k hq hh
 refine⟨sh,a,fun e hc=>?_,c⟩
 rcases b e hc with h1|⟨h1,h1'|h1'⟩
 ·exact .inl h1
 ·exact .inr ⟨h1,.inl h1'⟩
 ·rcases List.mem_cons.1 h1' with rfl|h1'
  ·have:q=p:=by have:=hp.symm.trans hq;cases this;rfl
   subst this
   exact .inr ⟨h1,.inl (h k h1 hc)⟩
  ·exact .inr ⟨h1,.inr h1'⟩
def Beg (H:Nat→Nat→Prop)(S:Mc):Prop:=H 1 0∨(S.pos=0∧Called S 1)
theorem inv_end (I:Inv s D N T H none [] S)(hb:Beg H S)(hR:S.reached=[])(he:S.pos=s.size∨S.waiting=[]){p:Pl}(hp:S.pl[0]? =some p)(ht:p.t=T)(hx:p.nx=0):S.en=s.size↔Mt s D T 0 s.size:=by
 have hpos:=I.ple
 constructor
 ·intro h
  have h1:S.pos=s.size:=by have:=I.ele.2;omega
  have h2:Called S 0:=by show S.en=S.pos;rw [h1];exact h
  have:=I.good 0 h2 S.pos (.fin _)
  rwa [h1]at this
 ·intro hm
  have hc:Closed s S.pl (fun r q=>H r q∨(q=S.pos∧Called S r)):=fun i q k hq hh=>by
   rcases hh with hh|⟨rfl,hh⟩
   ·obtain⟨sh,a,b,c⟩:=I.past i q k hq hh
    refine⟨sh,I.shp i q sh hq a,fun e h=>?_,fun l e r hr=>.inl (c l e r hr)⟩
    rcases b e h with h1|⟨h1,h1'|h1'⟩
    ·exact .inl h1
    ·exact .inr ⟨h1,h1'⟩
    ·cases h1'
   ·obtain⟨p',hp',hv⟩:=hh
    have:q=p':=by have:=hp'.symm.trans hq;cases this;rfl
    subst this
    rcases I.now i q hq hv with h1|h1|⟨sh,a,b,c⟩
    ·cases h1
    ·rw [hR]at h1;cases h1
    ·refine⟨sh,I.shp i q sh hq a,fun e ⟨h,_⟩=>?_,fun l e r hr=>.inr ⟨rfl,c l e r hr⟩⟩
     have hw:=b e
     rcases he with he|he
     ·omega
     ·rw [he]at hw;cases hw
  have hbeg:(fun r q=>H r q∨(q=S.pos∧Called S r)) (0+1) 0:=by
   rcases hb with h|⟨h1,h2⟩
   ·exact .inl h
   ·exact .inr ⟨h1.symm,h2⟩
  have hd:=I.deep 0 p hp
  have hm':Mt s p.e p.t 0 s.size:=by rw [←mt_deepL s p.e p.t D hd.2 hd.1,ht];exact hm
  have:=compl hc p.e 0 p 0 s.size hp hd.2 hm' hbeg
  rw [hx]at this
  rcases this with h|⟨h1,h2⟩
  ·have:=(I.hlt _ _ h).1;omega
  ·have h3:S.en=S.pos:=h2
   rw [h3,h1]
theorem inv_zero {t:Pat}{e:Nat}{r:PatR}{b:Nat}(hd:DeepL e t.kids)(he:e≤D)(hN:1+cntL e t.kids≤N):Inv s D N t (fun _ _=>False) none [] ⟨[⟨t,e,r,0,b,-1,none⟩],[],[],0,-1⟩:=by
 have one:∀j q,([⟨t,e,r,0,b,-1,none⟩]:List Pl)[j]? =some q→j=0∧q=⟨t,e,r,0,b,-1,none⟩:=fun j q hq=>by
  cases j with
  | zero=>simp at hq;exact⟨rfl,hq.symm⟩
  | succ j=>simp at hq
 refine⟨fun j q hq=>?_,fun j q hq=>?_,fun j q sh hq hs=>?_,fun j q hq=>?_,⟨Int.le_refl _,by show(-1:Int)≤((0:Nat):Int);omega⟩,Nat.zero_le _,fun _ _ h=>h.elim,fun _ _ _ _ h=>h.elim,fun j q hq hv=>?_,fun j hj=>(by cases hj),fun j hj=>(by cases hj),fun r hr=>?_,?_,?_⟩
 ·obtain⟨rfl,rfl⟩:=one j q hq;exact Nat.le_refl _
 ·obtain⟨rfl,rfl⟩:=one j q hq;exact⟨he,hd⟩
 ·obtain⟨rfl,rfl⟩:=one j q hq;cases hs
 ·obtain⟨rfl,rfl⟩:=one j q hq;exact⟨Int.le_refl _,by show(-1:Int)≤((0:Nat):Int);omega⟩
 ·obtain⟨rfl,rfl⟩:=one j q hq
  have h1:(-1:Int)=((0:Nat):Int):=hv
  omega
 ·cases r with
  | zero=>have h1:(-1:Int)=((0:Nat):Int):=hr;omega
  | succ j =>
   obtain⟨q,hq,hv⟩:=hr
   obtain⟨rfl,rfl⟩:=one j q hq
   have h1:(-1:Int)=((0:Nat):Int):=hv
   omega
 ·simp [unv,sumL,uw]
 ·simpa [sumL,rw']using hN
theorem good_zero {t:Pat}{e:Nat}{r:PatR}{b:Nat}:GoodM s D t [⟨t,e,r,0,b,-1,none⟩] 1 0:=fun j hp=>by
 cases hp with
 | via h hm hp' =>
  simp at h
  subst h
  cases hp' with
  | fin=>exact hm
end
end Mac
end
section
open Go.RowKit

abbrev HasB (w:World)(v:Value)(l:List Bool):Prop:=HasR bE 1 w v l
theorem HasB.cell {w:World}{v:Value}{l:List Bool}(h:HasB w v l){i:Nat}(hi:i<l.length):∃a c,v=.slice (some a) l.length c∧a.block<w.heap.size∧w.cell? (a.add i)=some (.bool l[i]):=by
 obtain⟨A,cap,rfl,_,hc⟩:=h
 obtain⟨a,rfl,hb,hcc⟩:=hc i hi
 refine⟨a,cap,rfl,hb,?_⟩
 have:=hcc 0 (.bool l[i]) rfl
 rw [Nat.mul_one]at this
 have e:(a.add i).add 0=a.add i:=by unfold Addr.add;rfl
 rwa [e]at this
theorem HasB.form {w:World}{v:Value}{l:List Bool}(h:HasB w v l):∃A c,v=.slice A l.length c:=by obtain⟨A,c,hv,_⟩:=h;exact⟨A,c,hv⟩
def orL (a b:List Bool):List Bool:=List.zipWith (· || ·) a b
theorem orL_len {a b:List Bool}(h:a.length=b.length):(orL a b).length=a.length:=by unfold orL;simp [h]
theorem on_or {a b:List Bool}(h:a.length=b.length)(i:Nat):On (orL a b) i↔On a i∨On b i:=by
 by_cases hi:i<a.length
 ·have h1:i<(orL a b).length:=by rw [orL_len h];exact hi
  have h2:i<b.length:=by omega
  rw [on_get h1,on_get hi,on_get h2]
  simp [orL]
 ·constructor
  ·intro hh;exact absurd (on_lt hh) (by rw [orL_len h];exact hi)
  ·rintro(hh|hh)
   ·exact absurd (on_lt hh) hi
   ·exact absurd (on_lt hh) (by omega)
def upto (l:List Bool)(k:Nat):List Bool:=l.take k++List.replicate (l.length-k) false
theorem upto_len (l:List Bool)(k:Nat):(upto l k).length=l.length:=by unfold upto;simp;omega
theorem upto_zero (l:List Bool):upto l 0=List.replicate l.length false:=by simp [upto]
theorem upto_all (l:List Bool){k:Nat}(h:l.length≤k):upto l k=l:=by unfold upto;rw [List.take_of_length_le h,Nat.sub_eq_zero_of_le h];simp
theorem upto_get (l:List Bool)(k i:Nat):(upto l k)[i]? =if i<l.length then(if i<k then l[i]? else some false)else none:=by
 unfold upto
 by_cases hi:i<l.length
 ·rw [if_pos hi]
  by_cases hk:i<k
  ·rw [if_pos hk,List.getElem?_append_left (by simp;omega),List.getElem?_take_of_lt hk]
  ·rw [if_neg hk,List.getElem?_append_right (by simp;omega),List.getElem?_replicate,if_pos (by simp;omega)]
 ·rw [if_neg hi,List.getElem?_eq_none (by simp;omega)]
theorem upto_set (l:List Bool){k:Nat}(h:k<l.length):(upto l k).set k l[k]=upto l (k+1):=by
 apply List.ext_getElem?
 intro i
 rw [List.getElem?_set,upto_len,upto_get,upto_get]
 by_cases e:k=i
 ·subst e
  rw [if_pos rfl,if_pos h,if_pos h,if_pos (by omega),List.getElem?_eq_getElem h]
 ·rw [if_neg e]
  by_cases hi:i<l.length
  ·rw [if_pos hi,if_pos hi]
   by_cases hk:i<k
   ·rw [if_pos hk,if_pos (by omega)]
   ·rw [if_neg hk,if_neg (by omega)]
  ·rw [if_neg hi,if_neg hi]
theorem sboth_any (u v:Value)(a b:List Bool)(w:World)(ha:HasB w u a)(hb:HasB w v b)(hl:a.length=b.length)(hn:a.length≤2097152):
  Calls Tryz.prog 121 #[u,v] w fun e w'=>∃o,e=.returned o∧Hid (RowB w.heap.size w' o (orL a b))∧Hid (Below w.heap.size w w'):=by
 obtain⟨i0,hi0,hz0,hz1,hz2⟩:=info_parts infoBool
 obtain⟨A1,c1,rfl⟩:=ha.form
 obtain⟨A2,c2,rfl⟩:=hb.form
 obtain⟨n,hnn⟩:∃n,n=a.length:=⟨_,rfl⟩
 have hol:(orL a b).length=n:=by rw [orL_len hl,hnn]
 have HC:∀i,i<n→∃(x y:Bool) (p q:Addr),A1=some p∧A2=some q∧p.block<w.heap.size∧q.block<w.heap.size∧w.cell? (p.add i)=some (.bool x)∧w.cell? (q.add i)=some (.bool y)∧Hid ((upto (orL a b) i).set i (x || y)=upto (orL a b) (i+1)):=fun i hi=>by
  obtain⟨p,cp,hp1,hp2,hp3⟩:=ha.cell (i:=i) (by omega)
  obtain⟨q,cq,hq1,hq2,hq3⟩:=hb.cell (i:=i) (by omega)
  cases hp1;cases hq1
  refine⟨_,_,p,q,rfl,rfl,hp2,hq2,hp3,hq3,hid ?_⟩
  rw [←upto_set (orL a b) (by omega)]
  congr 1
  simp [orL]
 have HN:=hid hnn
 have HOL:=hid hol
 have HL2:Hid (b.length=n):=hid (by omega)
 rw [←hnn]at hn ⊢
 rw [HL2.out]
 have hb2:i0.bytes*n≤281474976710656:=by rw [hz2];omega
 have hb3:n≤maxLen:=by unfold maxLen;omega
 have HZ:Hid (i0.bytes=1):=hid hz2
 clear hz2 hol hnn hl ha hb
 go_enter Tryz.func121,Tryz.ntmps121
 go_wp2_with (at_make;refine wpList_make_full _ rfl _ _ 136 rfl w.heap.size 4 i0 (.bool false) 1 Tryz.underlying136 hi0 hz0 hz1 _ _ _ _ n rfl rfl rfl rfl hb2 hb3 (Nat.le_refl _) ?_;intro w1 hown1 hg1)
 have hrow1:RowB w.heap.size w1 (.slice (some ⟨w.heap.size,0,none⟩) n n) (upto (orL a b) 0):=by
  have:=hown1
  rw [show(madeCells (Value.bool false).cells (n*1)).toList=(List.replicate n false).flatMap bE from made_flat bE_len (by omega) _ false rfl n]at this
  unfold RowB RowR
  rw [upto_zero,HOL.out,List.length_replicate]
  simpa using this
 have hbel1:Below w.heap.size w w1:=(Below.refl _ _).grown hg1 (Nat.le_refl _) (by simp)
 clear hown1 hg1
 go_loopw [6] (fun i wr=>∃k:Nat,k≤n∧i=.int .i64 k∧Hid (RowB w.heap.size wr (.slice (some ⟨w.heap.size,0,none⟩) n n) (upto (orL a b) k))∧Below w.heap.size w wr) (fun i _=>n-(intOf i).toNat)
 case atStart=>exact⟨0,Nat.zero_le _,rfl,hid hrow1,hbel1⟩
 case round=>
  clear hrow1 hbel1
  obtain⟨k,hk,rfl,HR,hbel⟩:=hrel
  by_cases hlt:k<n
  ·obtain⟨x,y,p,q,rfl,rfl,hp,hq,cx,cy,HSET⟩:=HC k hlt
   have cx':wr.cell? (p.add k)=some (.bool x):=by rw [hbel.cell (by rw [addr_blk];exact hp)];exact cx
   have cy':wr.cell? (q.add k)=some (.bool y):=by rw [hbel.cell (by rw [addr_blk];exact hq)];exact cy
   have hkl:k<(upto (orL a b) k).length:=by rw [upto_len,HOL.out];exact hlt
   obtain⟨vb,hcell⟩:∃vb,wr.cell? ⟨w.heap.size,k,none⟩=some (.bool vb):=⟨_,RowB.at HR.out hkl⟩
   have hfz:=RowR.frozen HR.out k
   have HPUT:=hid (fun u=>RowB.put HR.out hkl u)
   have HBS:Hid (∀u,Below w.heap.size w (wr.setCell ⟨w.heap.size,k,none⟩ (.bool u))):=hid fun u=>below_set hbel (Nat.le_refl _)
   have hkz:(k:Int)<(n:Int):=by omega
   clear cx cy HR hkl HC hbel
   cases x
   all_goals
    go_wp2
    go_roundw
    case rel=>exact⟨k+1,by omega,by go_num,hid (by rw [←HSET.out];first|exact(HPUT.out _).1|simpa using (HPUT.out _).1),HBS.out _⟩
    case measure=>simp [intOf];omega
  ·have hkz:¬(k:Int)<(n:Int):=by omega
   have hR:=HR.out
   rw [upto_all _ (by rw [HOL.out];omega)]at hR
   go_wp2
   go_ret
   exact⟨_,rfl,hid hR,hid hbel⟩
end
section
open Go.RowKit

theorem bE_map (l:List Bool):l.flatMap bE=l.map Value.bool:=by induction l with|nil=>rfl|cons b r ih=>rw [List.flatMap_cons,ih];rfl
theorem wpList_copy_bools {ops:Array Oper}{rest:List Oper}{o:Oper}{a:Act}{Q:Exit→Act→World→Prop}{w:World}(hgd:o.guard=none)(x y:Operand)
  (ho:o.op=.call { callee:=.builtin .copy,args:=#[x,y],argTypes:=#[136,136] })
  (B g n c:Nat) (L A:List Bool) (hx:a.eval x=.slice (some ⟨g,0,none⟩) n c) (hrow:RowB B w (.slice (some ⟨g,0,none⟩) n c) L) (v:Value) (hy:a.eval y=v) (hA:HasB w v A) (hl:A.length=n) (h0:0<n)
  (h:∀w',RowB B w' (.slice (some ⟨g,0,none⟩) n c) A→w.grownBy w' (some g)→∀z,wpList Tryz.prog ops Q rest (a.put o.dst z) w'):wpList Tryz.prog ops Q (o::rest) a w:=by
 obtain⟨a1,cap,rfl,hab,_⟩:=hA.cell (i:=0) (by omega)
 rcases hrow.2 with ⟨h',_⟩|⟨g',c',cur,h',h1,h2,h3,h4,h5,h6⟩
 ·cases h'
 ·cases h'
  refine wpList_copy_own hgd x y 136 136 ho 4 Tryz.underlying136 (by kernel_rfl) g 0 _ c a1 A.length cap hx hy cur 4 h2 (A.map Value.bool) (by rw [List.length_map,hl];exact(Nat.min_self _).symm) (fun j u hu=>?_) (by rw [List.length_map,hl,h5];omega) (fun u hu=>by obtain⟨b,_,rfl⟩:=List.mem_map.1 hu;rfl) ?_
  ·rw [List.getElem?_map]at hu
   cases hj:A[j]? with
   | none=>rw [hj]at hu;cases hu
   | some b =>
    rw [hj]at hu
    obtain⟨hj',hb'⟩:=List.getElem?_eq_some_iff.1 hj
    obtain⟨a2,cap2,e,_,hc⟩:=hA.cell hj'
    cases e
    rw [hc,hb'];exact hu
  ·refine h _ ?_ ?_ _
   ·unfold RowB RowR
    refine⟨by rw [flat_len bE_len],.inr ⟨g,c,_,by rw [hl],h1,setRow_heap w g _ _ 4 _ h2,by rw [hl];exact h3,h4,?_,?_⟩⟩
    ·simp [hl,h5];omega
    ·rw [bE_map,Nat.mul_one,hl]
     simp [←hl]
   ·refine⟨rfl,rfl,rfl,by simp [World.setRow],fun k hk hne=>setRow_other w g k _ (fun e=>hne (by rw [e]))⟩
def EndsPost (s:ByteArray)(R:Nat→Nat→Prop)(A:List Bool)(w:World)(e:Ending)(w':World):Prop:=∃(o:Value) (O:List Bool),e=.returned o∧Hid (RowB w.heap.size w' o O)∧O.length=s.size+1∧Hid (EndsOf R A O)∧Hid (Below w.heap.size w w')
def KidsC (s : ByteArray)(d : Nat)(w : World)(Ak : Option Addr)(kids : List Pat) : Prop := ∀ i (h : i < kids.length), ∃ (a : Addr) (x : PatR), Ak = some a ∧ (a.add (i * 3)).block < w.heap.size ∧ Pk w (a.add (i * 3)) x ∧ ∀ (v : Value) (A : List Bool) (W : World), Below w.heap.size w W → HasB W v A → A.length = s.size + 1 →
  Calls Tryz.prog 96 #[.agg #[.int .i64 x.op,.string x.text,x.kv],.string s,v] W (EndsPost s (kidM s d kids[i]) A W)
def EndsC (s : ByteArray)(d : Nat)(t : Pat) : Prop := ∀ (Ak : Option Addr) (m ck : Nat) (v : Value) (A : List Bool) (w : World), KidsC s d w Ak t.kids → m = t.kids.length → HasB w v A → A.length = s.size + 1 → s.size ≤ 1048576 → t.x.text.size ≤ 9223372036854775807 → m ≤ 9223372036854775807 →
  Calls Tryz.prog 96 #[.agg #[.int .i64 t.x.op,.string t.x.text,.slice Ak m ck],.string s,v] w (EndsPost s (StepM s (kidM s d) t) A w)
theorem ends_none {s:ByteArray}{R:Nat→Nat→Prop}{A:List Bool}(h:∀i j,¬R i j)(n:Nat):EndsOf R A (List.replicate n false):=fun j _=>⟨fun hh=>absurd hh (on_rep _ _),fun⟨i,_,hr⟩=>absurd hr (h i j)⟩
theorem ends_other (s:ByteArray)(d:Nat)(t:Pat)(h1:t.x.op≠1)(h2:t.x.op≠2)(h3:t.x.op≠3)(h4:t.x.op≠4)(h5:t.x.op≠5):EndsC s d t:=by
 intro Ak m ck v A w hK hm hA hl hs ht hmm
 obtain⟨i0,hi0,hz0,hz1,hz2⟩:=info_parts infoBool
 have HE:Hid (EndsOf (StepM s (kidM s d) t) A (List.replicate (s.size+1) false)):=hid (ends_none (s:=s) (fun i j=>by unfold StepM;simp [h1,h2,h3,h4,h5]) _)
 obtain⟨op,hop⟩:∃op,op=t.x.op:=⟨_,rfl⟩
 rw [←hop]at h1 h2 h3 h4 h5 ⊢
 have q1:((op:Int)==1)=false:=by rw [beq_eq_false_iff_ne];exact h1
 have q2:((op:Int)==2)=false:=by rw [beq_eq_false_iff_ne];exact h2
 have q3:((op:Int)==3)=false:=by rw [beq_eq_false_iff_ne];exact h3
 have q4:((op:Int)==4)=false:=by rw [beq_eq_false_iff_ne];exact h4
 have q5:((op:Int)==5)=false:=by rw [beq_eq_false_iff_ne];exact h5
 obtain⟨n1,hn1⟩:∃n1,n1=s.size+1:=⟨_,rfl⟩
 have hnz:(s.size:Int)+1=(n1:Int):=by omega
 have hn9:n1≤1048577:=by omega
 have hs9:s.size≤9223372036854775807:=by omega
 rw [←hn1]at HE
 have HN1:=hid hn1
 have hb2:i0.bytes*n1≤281474976710656:=by rw [hz2];omega
 have hb3:n1≤maxLen:=by unfold maxLen;omega
 clear hz2 hK hm hA hl hop h1 h2 h3 h4 h5 hn1
 go_enter Tryz.func96,Tryz.ntmps96
 go_wp2_with (at_make;refine wpList_make_full _ rfl _ _ 136 rfl w.heap.size 4 i0 (.bool false) 1 Tryz.underlying136 hi0 hz0 hz1 _ _ _ _ n1 rfl rfl (by first|rfl|exact hnz) (by first|rfl|exact hnz) hb2 hb3 (by simp) ?_;intro w1 hown1 hg1;have hbel1:Below w.heap.size w w1:=(below_al (Below.refl _ _) _).grown hg1 (by simp) (by simp);have hq1:w1.heap[w.heap.size]? =some (.cells #[.int .i64 op,.string t.x.text,.slice Ak m ck] 92 (0,0)):=(hg1.block _ (by simp) (by simp)).trans (heap_alloc_new w _);have c0:w1.cell? ⟨w.heap.size,0,none⟩=some (.int .i64 op):=(by rw [cell_of_row _ w.heap.size 0 _ _ _ hq1];rfl))
 have hrow1:RowB w.heap.size w1 (.slice (some ⟨w.heap.size+1,0,none⟩) n1 n1) (List.replicate n1 false):=by
  have:=hown1
  rw [show(madeCells (Value.bool false).cells (n1*1)).toList=(List.replicate n1 false).flatMap bE from made_flat bE_len (by omega) _ false rfl n1]at this
  unfold RowB RowR
  rw [List.length_replicate]
  simpa using this
 go_ret
 exact⟨_,_,rfl,hid hrow1,by rw [List.length_replicate];exact HN1.out,HE,hid hbel1⟩
end
end Go.Proofs.YtecladbckadijaaGreatDoor
