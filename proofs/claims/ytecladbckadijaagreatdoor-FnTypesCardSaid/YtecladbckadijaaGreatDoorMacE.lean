/- MERGED for a claim. -/
import Derived.Test.YtecladbckadijaaGreatDoorMatY
import Derived.RangeFuncNested
import Derived.RangeFuncBound
import Derived.RangeFuncCalls
import Derived.RangeFuncLeaves
import Derived.Shelf.Abstract
import Derived.Deep.RegionHeldLaw
set_option linter.unusedVariables false
set_option linter.unusedSimpArgs false
set_option maxRecDepth 100000
set_option maxHeartbeats 16000000
namespace Go.Proofs.YtecladbckadijaaGreatDoor
open Go.Lib (hid)
section
open Go.RowKit

structure Cx where
 w0:World
 m:Nat
 e:Nat
 mv:Nat
abbrev ptr (b:Nat):Value:=.pointer (some ⟨b,0,none⟩)
abbrev tM:TypeId:=151
abbrev tF:TypeId:=1
abbrev tG:TypeId:=172
abbrev tS:TypeId:=155
abbrev placeV (b:Nat):Value:=.func (.func 156) #[] #[ptr (b+7),ptr (b+5),ptr (b+6)]
abbrev visitV (b:Nat):Value:=.func (.func 134) #[] #[ptr (b+4),ptr b,ptr (b+1),ptr (b+3),ptr (b+2)]
abbrev endPV (X:Cx):Value:=.func (.func 117) #[] #[ptr X.mv,ptr X.e]
abbrev takeV (c:Nat):Value:=.func (.func 176) #[] #[ptr (c+1),ptr (c+2)]
abbrev waitV (c:Nat):Value:=.func (.func 177) #[] #[ptr c,ptr (c+3)]
abbrev eachV (c:Nat):Value:=.func (.func 179) #[] #[ptr c]
abbrev orV (c c':Nat):Value:=.func (.func 180) #[] #[ptr c,ptr c']
abbrev noneV:Value:=.func (.func 161) #[] #[]
abbrev bx (v:Value)(t:TypeId):Obj:=.cells #[v] t (0,0)
def bOf (L:List Pl)(j:Nat):Nat:=(L[j]?.map Pl.b).getD 0
def refV (X:Cx)(L:List Pl):Nat→Value
 | 0=>endPV X
 | j+1=>placeV (bOf L j)
theorem bOf_eq {L:List Pl}{j:Nat}{p:Pl}(h:L[j]? =some p):bOf L j=p.b:=by unfold bOf;rw [h];rfl
abbrev Kn:=Nat→Option Obj
def Kn.le (K K':Kn):Prop:=∀b o,K b=some o→K' b=some o
theorem Kn.le_refl (K:Kn):K.le K:=fun _ _ h=>h
theorem Kn.le_trans {K K' K'':Kn}(h:K.le K')(h':K'.le K''):K.le K'':=fun b o hb=>h' b o (h b o hb)
structure PlK (X:Cx) (K:Kn) (L:List Pl) (p:Pl):Prop where
 k0:K p.b=some (bx (ptr X.m) tM)
 k1:K (p.b+1)=some (.cells #[.int .i64 p.r.op,.string p.r.text,p.r.kv] 92 (0,0))
 k2:K (p.b+2)=some (bx (refV X L p.nx) tF)
 k3:K (p.b+3)=some (bx (placeV p.b) tF)
 k5:K (p.b+5)=some (bx (ptr X.m) tM)
 k6:K (p.b+6)=some (bx (visitV p.b) tF)
def TakeK (X:Cx)(K:Kn)(L:List Pl)(p:Pl)(c:Nat):Prop:=K (c+1)=some (bx (.string p.t.x.text) 9)∧K (c+2)=some (bx (refV X L p.nx) tF)
def VsK (X:Cx)(K:Kn)(L:List Pl)(p:Pl)(g:Value):Vs→Prop
 | .wait=>∃c,g=waitV c∧K c=some (bx (ptr X.m) tM)∧K (c+3)=some (bx (takeV c) tG)∧TakeK X K L p c
 | .ways l => (∃ r, l = [r] ∧ g = refV X L r) ∨
  (∃c b cap cur,g=eachV c∧l.length≤2147483648∧K c=some (bx (.slice (some ⟨b,0,none⟩) l.length cap) 152)∧K b=some (.cells cur tF (0,0))∧∀q (h:q<l.length),cur[q]? =some (refV X L l[q]))∨
  (∃r r' c c',l=[r,r']∧g=orV c c'∧K c=some (bx (refV X L r) tF)∧K c'=some (bx (refV X L r') tF))∨(l=[]∧g=noneV)
abbrev RowV (E B:Nat)(w:World)(v:Value)(l:List Value):Prop:=RowR (fun u:Value=>[u]) 1 E B w v l
structure Dis (X:Cx) (K:Kn) (vr vw:Value) (L:List Pl):Prop where
 bm:X.w0.heap.size≤X.m
 me:X.m<X.e
 km:K X.m=none
 ke:K X.e=none
 ep:∀p,p∈L→X.e<p.b
 k4:∀p,p∈L→K (p.b+4)=none∧K (p.b+7)=none
 inc:∀(i j:Nat) (p q:Pl),L[i]? =some p→L[j]? =some q→i<j→p.b+8≤q.b
 kr:∀g,vr.ownBlock=some g→K g=none∧g≠X.m∧g≠X.e∧vw.ownBlock≠some g∧∀p,p∈L→g≠p.b+4∧g≠p.b+7
 kw:∀g,vw.ownBlock=some g→K g=none∧g≠X.m∧g≠X.e∧∀p,p∈L→g≠p.b+4∧g≠p.b+7
structure Rep (X:Cx) (K:Kn) (vr vw:Value) (cs:List Nat) (w:World) (S:Mc):Prop where
 dis:Dis X K vr vw S.pl
 bel:Below X.w0.heap.size X.w0 w
 hk:∀b o,K b=some o→w.heap[b]? =some o
 hm:w.heap[X.m]? =some (.cells #[.int .i64 S.pos,vr,vw] tS (0,0))
 he:w.heap[X.e]? =some (bx (.int .i64 S.en) 3)
 hv:K X.mv=some (bx (ptr X.m) tM)
 rr:RowV tF X.w0.heap.size w vr (S.reached.map fun i=>visitV (bOf S.pl i))
 rw:RowV tG X.w0.heap.size w vw (cs.map takeV)
 cl:cs.length=S.waiting.length
 cw:∀q (h:q<cs.length) (h':q<S.waiting.length),∃p,S.pl[S.waiting[q]]? =some p∧TakeK X K S.pl p cs[q]
 pk:∀p,p∈S.pl→PlK X K S.pl p∧p.nx≤S.pl.length
 hg:∀p,p∈S.pl→∃g,w.heap[p.b+4]? =some (bx g tF)∧(p.sh=none→g=.nilFunc)∧∀sh,p.sh=some sh→VsK X K S.pl p g sh∧(∀l,sh=.ways l→∀r,r∈l→r≤S.pl.length)
 h7:∀p,p∈S.pl→w.heap[p.b+7]? =some (bx (.int .i64 p.vis) 3)
 rd:∀p,p∈S.pl→RdN patK p.e X.w0 p.r p.t∧p.t.x.text.size≤9223372036854775807∧TxFit p.e p.t.kids
 rl:∀i,i∈S.reached→i<S.pl.length
 kc:∀b o,K b=some o→o.isCells=true
section
variable {X:Cx} {K K':Kn} {vr vw:Value} {cs:List Nat} {w w':World} {S:Mc}
theorem PlK.mono {L:List Pl}{p:Pl}(h:PlK X K L p)(hk:K.le K'):PlK X K' L p:=⟨hk _ _ h.k0,hk _ _ h.k1,hk _ _ h.k2,hk _ _ h.k3,hk _ _ h.k5,hk _ _ h.k6⟩
theorem TakeK.mono {L:List Pl}{p:Pl}{c:Nat}(h:TakeK X K L p c)(hk:K.le K'):TakeK X K' L p c:=⟨hk _ _ h.1,hk _ _ h.2⟩
theorem VsK.mono {L:List Pl}{p:Pl}{g:Value}{sh:Vs}(h:VsK X K L p g sh)(hk:K.le K'):VsK X K' L p g sh:=by
 cases sh with
 | wait=>obtain⟨c,a,b,d,e⟩:=h;exact⟨c,a,hk _ _ b,hk _ _ d,e.mono hk⟩
 | ways l =>
  rcases h with h|⟨c,b,cap,cur,e1,e0,e2,e3,e4⟩|⟨r,r',c,c',e1,e2,e3,e4⟩|h
  ·exact .inl h
  ·exact .inr (.inl ⟨c,b,cap,cur,e1,e0,hk _ _ e2,hk _ _ e3,e4⟩)
  ·exact .inr (.inr (.inl ⟨r,r',c,c',e1,e2,hk _ _ e3,hk _ _ e4⟩))
  ·exact .inr (.inr (.inr h))
def Same (L L':List Pl):Prop:=∀j,j<L.length→bOf L' j=bOf L j
theorem ref_same {L L':List Pl}(h:Same L L'){r:Nat}(hr:r≤L.length):refV X L' r=refV X L r:=by
 cases r with
 | zero=>rfl
 | succ j=>show placeV (bOf L' j)=placeV (bOf L j);rw [h j (by omega)]
theorem same_app (L N:List Pl):Same L (L++N):=fun j hj=>by unfold bOf;rw [List.getElem?_append_left hj]
theorem same_set {L:List Pl}{i:Nat}{p q:Pl}(h:L[i]? =some p)(hb:q.b=p.b):Same L (L.set i q):=fun j hj=>by
 by_cases e:i=j
 ·subst e
  unfold bOf;rw [List.getElem?_set_self hj,h];exact hb
 ·unfold bOf;rw [List.getElem?_set_ne e]
theorem PlK.same {L L':List Pl}{p p':Pl}(h:PlK X K L p)(hs:Same L L')(hn:p.nx≤L.length)(hb:p'.b=p.b)(hx:p'.nx=p.nx)(hr:p'.r=p.r):PlK X K L' p':=by
 obtain⟨a,b,c,d,e,f⟩:=h
 refine⟨by rw [hb];exact a,by rw [hb,hr];exact b,by rw [hb,hx,ref_same hs hn];exact c,by rw [hb];exact d,by rw [hb];exact e,by rw [hb];exact f⟩
theorem TakeK.same {L L':List Pl}{p p':Pl}{c:Nat}(h:TakeK X K L p c)(hs:Same L L')(hn:p.nx≤L.length)(ht:p'.t=p.t)(hx:p'.nx=p.nx):TakeK X K L' p' c:=⟨by rw [ht];exact h.1,by rw [hx,ref_same hs hn];exact h.2⟩
theorem VsK.same {L L':List Pl}{p p':Pl}{g:Value}{sh:Vs}(h:VsK X K L p g sh)(hs:Same L L')(hn:p.nx≤L.length)(hl:∀l,sh=.ways l→∀r,r∈l→r≤L.length)(ht:p'.t=p.t)(hx:p'.nx=p.nx):VsK X K L' p' g sh:=by
 cases sh with
 | wait=>obtain⟨c,a,b,d,e⟩:=h;exact⟨c,a,b,d,e.same hs hn ht hx⟩
 | ways l =>
  have hl':=hl l rfl
  rcases h with ⟨r,rfl,e⟩|⟨c,b,cap,cur,e1,e0,e2,e3,e4⟩|⟨r,r',c,c',rfl,e2,e3,e4⟩|h
  ·exact .inl ⟨r,rfl,by rw [ref_same hs (hl' r (by simp))];exact e⟩
  ·exact .inr (.inl ⟨c,b,cap,cur,e1,e0,e2,e3,fun q h=>by rw [ref_same hs (hl' _ (List.getElem_mem h))];exact e4 q h⟩)
  ·exact .inr (.inr (.inl ⟨r,r',c,c',rfl,e2,by rw [ref_same hs (hl' r (by simp))];exact e3,by rw [ref_same hs (hl' r' (by simp))];exact e4⟩))
  ·exact .inr (.inr (.inr h))
theorem Dis.far {L:List Pl}(h:Dis X K vr vw L){i j:Nat}{p q:Pl}(hp:L[i]? =some p)(hq:L[j]? =some q)(hij:i≠j):p.b+8≤q.b∨q.b+8≤p.b:=by
 rcases Nat.lt_or_ge i j with h1|h1
 ·exact .inl (h.inc i j p q hp hq h1)
 ·exact .inr (h.inc j i q p hq hp (by omega))
theorem Rep.turn (h:Rep X K vr vw cs w S)(hb:Below w.heap.size w w')(hK:K.le K')(hK':∀b o,K' b=some o→K b=some o∨(w.heap.size≤b∧w'.heap[b]? =some o∧o.isCells=true)):Rep X K' vr vw cs w' S:=by
 have hlt:∀b (o:Obj),w.heap[b]? =some o→b<w.heap.size:=fun b o hh=>(Array.getElem?_eq_some_iff.1 hh).1
 have kb:∀b (o:Obj),w.heap[b]? =some o→w'.heap[b]? =some o:=fun b o hh=>(hb.block b (hlt b o hh)).trans hh
 have hno:∀b (o:Obj),w.heap[b]? =some o→K b=none→K' b=none:=fun b o hh hn=>by
  cases e:K' b with
  | none=>rfl
  | some o' =>
   rcases hK' b o' e with h1|⟨h1,_,_⟩
   ·rw [hn]at h1;cases h1
   ·have:=hlt b o hh;omega
 have hrow:∀ {E:Nat} {v:Value} {l:List Value} {g:Nat},RowV E X.w0.heap.size w v l→v.ownBlock=some g→K g=none→K' g=none:=fun {E v l g} hr hv hn=>by
  have:=hr.lt hv
  obtain⟨o,ho⟩:∃o,w.heap[g]? =some o:=⟨_,Array.getElem?_eq_getElem this.2⟩
  exact hno g o ho hn
 obtain⟨d1,d2,d3,d4,d5,d6,d7,d8,d9⟩:=h.dis
 refine⟨⟨d1,d2,hno _ _ h.hm d3,hno _ _ h.he d4,d5,fun p hp=>?_,d7,fun g hg=>?_,fun g hg=>?_⟩,h.bel.trans (hb.mono h.bel.size),fun b o hh=>?_,kb _ _ h.hm,kb _ _ h.he,hK _ _ h.hv,h.rr.below hb,h.rw.below hb,h.cl,fun q h1 h2=>?_,fun p hp=>⟨(h.pk p hp).1.mono hK,(h.pk p hp).2⟩,fun p hp=>?_,fun p hp=>kb _ _ (h.h7 p hp),h.rd,h.rl,fun b o hh=>?_⟩
 ·obtain⟨g,hg,_⟩:=h.hg p hp
  exact⟨hno _ _ hg (d6 p hp).1,hno _ _ (h.h7 p hp) (d6 p hp).2⟩
 ·have:=d8 g hg;exact⟨hrow h.rr hg this.1,this.2⟩
 ·have:=d9 g hg;exact⟨hrow h.rw hg this.1,this.2⟩
 ·rcases hK' b o hh with h1|⟨_,h1,_⟩
  ·exact kb _ _ (h.hk b o h1)
  ·exact h1
 ·obtain⟨p,a,b⟩:=h.cw q h1 h2;exact⟨p,a,b.mono hK⟩
 ·obtain⟨g,a,b,c⟩:=h.hg p hp
  exact⟨g,kb _ _ a,b,fun sh e=>⟨(c sh e).1.mono hK,(c sh e).2⟩⟩
 ·rcases hK' b o hh with h1|⟨_,_,h1⟩
  ·exact h.kc b o h1
  ·exact h1
theorem Rep.below (h:Rep X K vr vw cs w S)(hb:Below w.heap.size w w'):Rep X K vr vw cs w' S:=h.turn hb K.le_refl fun _ _ hh=>.inl hh
def Kn.add (K:Kn)(b:Nat)(o:Obj):Kn:=fun x=>if x=b then some o else K x
theorem Kn.add_at (K:Kn)(b:Nat)(o:Obj):K.add b o b=some o:=if_pos rfl
theorem Rep.new_free (h:Rep X K vr vw cs w S){b:Nat}(hb:w.heap.size≤b):K b=none:=by
 cases e:K b with
 | none=>rfl
 | some o=>have:=(Array.getElem?_eq_some_iff.1 (h.hk b o e)).1;omega
theorem Kn.le_add {K:Kn}{b:Nat}{o:Obj}(h:K b=none):K.le (K.add b o):=fun x o' hx=>by
 unfold Kn.add
 split
 ·rename_i e;rw [e,h]at hx;cases hx
 ·exact hx
theorem Rep.add (h:Rep X K vr vw cs w S){b:Nat}{o:Obj}(hb:w.heap.size≤b)(hB:Below w.heap.size w w')(ho:w'.heap[b]? =some o)(hc:o.isCells=true):Rep X (K.add b o) vr vw cs w' S:=
 h.turn hB (Kn.le_add (h.new_free hb)) fun x o' hx=>by
  unfold Kn.add at hx
  split at hx
  ·rename_i e;cases hx;rw [e];exact .inr ⟨hb,ho,hc⟩
  ·exact .inl hx
end
end
section
open Go.RowKit Mac

section
variable {X:Cx} {K K':Kn} {vr vw:Value} {cs:List Nat} {w w':World} {S:Mc}
theorem blk_lt {b:Nat}{o:Obj}(h:w.heap[b]? =some o):b<w.heap.size:=(Array.getElem?_eq_some_iff.1 h).1
theorem Rep.mlt (h:Rep X K vr vw cs w S):X.m<w.heap.size:=blk_lt h.hm
theorem Rep.own_r (h:Rep X K vr vw cs w S){g:Nat}(hg:vr.ownBlock=some g):X.w0.heap.size≤g∧g<w.heap.size:=h.rr.lt hg
theorem Rep.own_w (h:Rep X K vr vw cs w S){g:Nat}(hg:vw.ownBlock=some g):X.w0.heap.size≤g∧g<w.heap.size:=h.rw.lt hg
theorem Rep.upd (h:Rep X K vr vw cs w S){w2:World}{vr' vw':Value}{R W cs':List Nat}{k:Nat}
  (hb:Below X.w0.heap.size w w2)
  (hf:∀b,b<w.heap.size→b≠X.m→vr.ownBlock≠some b→vw.ownBlock≠some b→w2.heap[b]? =w.heap[b]?)
  (hm:w2.heap[X.m]? =some (.cells #[.int .i64 k,vr',vw'] tS (0,0)))
  (r1:RowV tF X.w0.heap.size w2 vr' (R.map fun i=>visitV (bOf S.pl i))) (r2:RowV tG X.w0.heap.size w2 vw' (cs'.map takeV))
  (o1:∀g,vr'.ownBlock=some g→vr.ownBlock=some g∨w.heap.size≤g) (o2:∀g,vw'.ownBlock=some g→vw.ownBlock=some g∨w.heap.size≤g) (o3:∀g,vr'.ownBlock=some g→vw'.ownBlock≠some g)
  (cl:cs'.length=W.length) (cw:∀q (h:q<cs'.length) (h':q<W.length),∃p,S.pl[W[q]]? =some p∧TakeK X K S.pl p cs'[q])
  (rl:∀i,i∈R→i<S.pl.length):Rep X K vr' vw' cs' w2 { S with reached:=R,waiting:=W,pos:=k }:=by
 obtain⟨d1,d2,d3,d4,d5,d6,d7,d8,d9⟩:=h.dis
 have hK:∀b o,K b=some o→b≠X.m∧vr.ownBlock≠some b∧vw.ownBlock≠some b:=fun b o e=>
  ⟨fun e'=>(by rw [e',d3]at e;cases e),fun e'=>(by rw [(d8 b e').1]at e;cases e),fun e'=>(by rw [(d9 b e').1]at e;cases e)⟩
 have hp4:∀p,p∈S.pl→(p.b+4≠X.m∧vr.ownBlock≠some (p.b+4)∧vw.ownBlock≠some (p.b+4))∧(p.b+7≠X.m∧vr.ownBlock≠some (p.b+7)∧vw.ownBlock≠some (p.b+7)):=fun p hp=>by
  have:=d5 p hp
  exact⟨⟨by omega,fun e=>((d8 _ e).2.2.2.2 p hp).1 rfl,fun e=>((d9 _ e).2.2.2 p hp).1 rfl⟩,⟨by omega,fun e=>((d8 _ e).2.2.2.2 p hp).2 rfl,fun e=>((d9 _ e).2.2.2 p hp).2 rfl⟩⟩
 have new:∀g,w.heap.size≤g→K g=none∧g≠X.m∧g≠X.e∧∀p,p∈S.pl→g≠p.b+4∧g≠p.b+7:=fun g hg=>by
  refine⟨h.new_free hg,?_,?_,fun p hp=>⟨?_,?_⟩⟩
  ·have:=blk_lt h.hm;omega
  ·have:=blk_lt h.he;omega
  ·obtain⟨u,a,_⟩:=h.hg p hp;have:=blk_lt a;omega
  ·have:=blk_lt (h.h7 p hp);omega
 refine⟨⟨d1,d2,d3,d4,d5,d6,d7,fun g hg=>?_,fun g hg=>?_⟩,h.bel.trans hb,fun b o e=>?_,hm,?_,h.hv,r1,r2,cl,cw,h.pk,fun p hp=>?_,fun p hp=>?_,h.rd,rl,h.kc⟩
 ·rcases o1 g hg with e|e
  ·have:=d8 g e;exact⟨this.1,this.2.1,this.2.2.1,o3 g hg,this.2.2.2.2⟩
  ·have:=new g e;exact⟨this.1,this.2.1,this.2.2.1,o3 g hg,this.2.2.2⟩
 ·rcases o2 g hg with e|e
  ·exact d9 g e
  ·exact new g e
 ·have:=hK b o e
  exact(hf b (blk_lt (h.hk b o e)) this.1 this.2.1 this.2.2).trans (h.hk b o e)
 ·exact(hf _ (blk_lt h.he) (by omega) (fun e=>(d8 _ e).2.2.1 rfl) (fun e=>(d9 _ e).2.2.1 rfl)).trans h.he
 ·obtain⟨g,a,b⟩:=h.hg p hp
  have:=(hp4 p hp).1
  exact⟨g,(hf _ (blk_lt a) this.1 this.2.1 this.2.2).trans a,b⟩
 ·have:=(hp4 p hp).2
  exact(hf _ (blk_lt (h.h7 p hp)) this.1 this.2.1 this.2.2).trans (h.h7 p hp)
theorem mset {w:World}{m:Nat}{a b c u:Value}{t:TypeId}(h:w.heap[m]? =some (.cells #[a,b,c] t (0,0)))(j:Nat):(w.setCell ⟨m,j,none⟩ u).heap[m]? =some (.cells (#[a,b,c].setIfInBounds j u) t (0,0)):=heap_setCell_same w m j _ t u h
theorem Rep.setReached (h:Rep X K vr vw cs w S){w1:World}{v':Value}{R:List Nat}(hg:w.grownBy w1 vr.ownBlock)(r1:RowV tF X.w0.heap.size w1 v' (R.map fun i=>visitV (bOf S.pl i)))
  (o1:∀g,v'.ownBlock=some g→vr.ownBlock=some g∨w.heap.size≤g) (rl:∀i,i∈R→i<S.pl.length):Rep X K v' vw cs (w1.setCell ⟨X.m,1,none⟩ v') { S with reached:=R }:=by
 have hm1:w1.heap[X.m]? =some (.cells #[.int .i64 S.pos,vr,vw] tS (0,0)):=(hg.block _ h.mlt (fun e=>(h.dis.kr _ e.symm).2.1 rfl)).trans h.hm
 have hmo:v'.ownBlock≠some X.m:=fun e=>by
  rcases o1 _ e with e|e
  ·exact(h.dis.kr _ e).2.1 rfl
  ·have:=h.mlt;omega
 have hmw:vw.ownBlock≠some X.m:=fun e=>(h.dis.kw _ e).2.1 rfl
 have r2:RowV tG X.w0.heap.size w1 vw (cs.map takeV):=RowR.other (u:=vr) h.rw hg (fun g e e'=>(h.dis.kr g e').2.2.2.1 e)
 refine h.upd ?_ ?_ (mset hm1 1) (ownsRow_setCell_other r1 (a:=⟨X.m,1,none⟩) hmo _) (ownsRow_setCell_other r2 (a:=⟨X.m,1,none⟩) hmw _) o1 (fun g e=>.inl e) ?_ h.cl h.cw rl
 ·have hB:Below X.w0.heap.size w w1:=(Below.refl _ _).grown hg h.bel.size (fun g e=>(h.own_r e).1)
  exact hB.setCell (p:=⟨X.m,1,none⟩) h.dis.bm _
 ·intro b hb h1 h2 h3
  rw [Below.heap_setCell _ _ _ _ h1]
  exact hg.block b hb (fun e=>h2 e.symm)
 ·intro g e e'
  rcases o1 g e with e1|e1
  ·exact(h.dis.kr g e1).2.2.2.1 e'
  ·have:=(h.own_w e').2;omega
theorem Rep.setWaiting (h:Rep X K vr vw cs w S){w1:World}{v':Value}{W cs':List Nat}(hg:w.grownBy w1 vw.ownBlock)(r2:RowV tG X.w0.heap.size w1 v' (cs'.map takeV))
  (o2:∀g,v'.ownBlock=some g→vw.ownBlock=some g∨w.heap.size≤g) (cl:cs'.length=W.length) (cw:∀q (h:q<cs'.length) (h':q<W.length),∃p,S.pl[W[q]]? =some p∧TakeK X K S.pl p cs'[q]):Rep X K vr v' cs' (w1.setCell ⟨X.m,2,none⟩ v') { S with waiting:=W }:=by
 have hm1:w1.heap[X.m]? =some (.cells #[.int .i64 S.pos,vr,vw] tS (0,0)):=(hg.block _ h.mlt (fun e=>(h.dis.kw _ e.symm).2.1 rfl)).trans h.hm
 have hmo:v'.ownBlock≠some X.m:=fun e=>by
  rcases o2 _ e with e|e
  ·exact(h.dis.kw _ e).2.1 rfl
  ·have:=h.mlt;omega
 have hmw:vr.ownBlock≠some X.m:=fun e=>(h.dis.kr _ e).2.1 rfl
 have r1:RowV tF X.w0.heap.size w1 vr (S.reached.map fun i=>visitV (bOf S.pl i)):=RowR.other (u:=vw) h.rr hg (fun g e e'=>(h.dis.kr g e).2.2.2.1 e')
 refine h.upd ?_ ?_ (mset hm1 2) (ownsRow_setCell_other r1 (a:=⟨X.m,2,none⟩) hmw _) (ownsRow_setCell_other r2 (a:=⟨X.m,2,none⟩) hmo _) (fun g e=>.inl e) o2 ?_ cl cw h.rl
 ·have hB:Below X.w0.heap.size w w1:=(Below.refl _ _).grown hg h.bel.size (fun g e=>(h.own_w e).1)
  exact hB.setCell (p:=⟨X.m,2,none⟩) h.dis.bm _
 ·intro b hb h1 h2 h3
  rw [Below.heap_setCell _ _ _ _ h1]
  exact hg.block b hb (fun e=>h3 e.symm)
 ·intro g e e'
  rcases o2 g e' with e1|e1
  ·exact(h.dis.kr g e).2.2.2.1 e1
  ·have:=(h.own_r e).2;omega
theorem Rep.setPos (h:Rep X K vr vw cs w S)(k:Nat):Rep X K vr vw cs (w.setCell ⟨X.m,0,none⟩ (.int .i64 k)) { S with pos:=k }:=by
 have hmw:vw.ownBlock≠some X.m:=fun e=>(h.dis.kw _ e).2.1 rfl
 have hmr:vr.ownBlock≠some X.m:=fun e=>(h.dis.kr _ e).2.1 rfl
 exact h.upd ((Below.refl _ _).setCell (p:=⟨X.m,0,none⟩) h.dis.bm _) (fun b hb h1 _ _=>Below.heap_setCell _ _ _ _ h1) (mset h.hm 0) (ownsRow_setCell_other h.rr (a:=⟨X.m,0,none⟩) hmr _) (ownsRow_setCell_other h.rw (a:=⟨X.m,0,none⟩) hmw _) (fun g e=>.inl e) (fun g e=>.inl e) (fun g e=>(h.dis.kr g e).2.2.2.1) h.cl h.cw h.rl
theorem Rep.keep (h:Rep X K vr vw cs w S){b:Nat}{u:Value}(hk:K b=none)(hm:b≠X.m)(hr:vr.ownBlock≠some b)(hw:vw.ownBlock≠some b)(hB:X.w0.heap.size≤b):
  Below X.w0.heap.size X.w0 (w.setCell ⟨b,0,none⟩ u)∧(∀x o,K x=some o→(w.setCell ⟨b,0,none⟩ u).heap[x]? =some o)∧(w.setCell ⟨b,0,none⟩ u).heap[X.m]? =some (.cells #[.int .i64 S.pos,vr,vw] tS (0,0))∧
   RowV tF X.w0.heap.size (w.setCell ⟨b,0,none⟩ u) vr (S.reached.map fun i=>visitV (bOf S.pl i))∧RowV tG X.w0.heap.size (w.setCell ⟨b,0,none⟩ u) vw (cs.map takeV):=
 ⟨h.bel.setCell (p:=⟨b,0,none⟩) hB _,fun x o e=>by rw [Below.heap_setCell _ _ _ _ (fun e'=>by have e2:x=b:=e';rw [e2,hk]at e;cases e)];exact h.hk x o e,by rw [Below.heap_setCell _ _ _ _ (fun e=>hm e.symm)];exact h.hm,
  ownsRow_setCell_other h.rr (a:=⟨b,0,none⟩) hr _,ownsRow_setCell_other h.rw (a:=⟨b,0,none⟩) hw _⟩
theorem Rep.setEnd (h:Rep X K vr vw cs w S)(n:Int):Rep X K vr vw cs (w.setCell ⟨X.e,0,none⟩ (.int .i64 n)) { S with en:=n }:=by
 have hme:=h.dis.me
 obtain⟨k1,k2,k3,k4,k5⟩:=h.keep (b:=X.e) (u:=.int .i64 n) h.dis.ke (by omega) (fun e=>(h.dis.kr _ e).2.2.1 rfl) (fun e=>(h.dis.kw _ e).2.2.1 rfl) (by have:=h.dis.bm;omega)
 refine⟨h.dis,k1,k2,k3,one_setCell h.he,h.hv,k4,k5,h.cl,h.cw,h.pk,fun p hp=>?_,fun p hp=>?_,h.rd,h.rl,h.kc⟩
 ·have:=h.dis.ep p hp
  obtain⟨g,a,b⟩:=h.hg p hp
  exact⟨g,by rw [Below.heap_setCell _ _ _ _ (by show p.b+4≠X.e;omega)];exact a,b⟩
 ·have:=h.dis.ep p hp
  rw [Below.heap_setCell _ _ _ _ (by show p.b+7≠X.e;omega)];exact h.h7 p hp
theorem set_mem {L:List Pl}{i:Nat}{p' q:Pl}(hq:q∈L.set i p'):(q=p'∧i<L.length)∨∃j,j≠i∧L[j]? =some q:=by
 obtain⟨j,hj,rfl⟩:=List.getElem_of_mem hq
 rw [List.length_set]at hj
 by_cases e:i=j
 ·subst e;exact .inl ⟨by simp,hj⟩
 ·refine .inr ⟨j,fun e'=>e e'.symm,?_⟩
  rw [List.getElem_set_ne e];exact List.getElem?_eq_getElem hj
theorem Rep.setPl (h:Rep X K vr vw cs w S){i:Nat}{p p':Pl}(hp:S.pl[i]? =some p)(hb:p'.b=p.b)(ht:p'.t=p.t)(hn:p'.nx=p.nx)(hr:p'.r=p.r)(he:p'.e=p.e){w2:World}{j:Nat}(hj:j=4∨j=7)
  (hw2:∃u,w2=w.setCell ⟨p.b+j,0,none⟩ u)
  (h4:∃g,w2.heap[p.b+4]? =some (bx g tF)∧(p'.sh=none→g=.nilFunc)∧∀sh,p'.sh=some sh→VsK X K S.pl p g sh∧(∀l,sh=.ways l→∀r,r∈l→r≤S.pl.length))
  (h7:w2.heap[p.b+7]? =some (bx (.int .i64 p'.vis) 3)):Rep X K vr vw cs w2 { S with pl:=S.pl.set i p' }:=by
 obtain⟨u,rfl⟩:=hw2
 have hpm:=List.mem_of_getElem? hp
 have hil:=(List.getElem?_eq_some_iff.1 hp).1
 obtain⟨d1,d2,d3,d4,d5,d6,d7,d8,d9⟩:=h.dis
 have hep:=d5 p hpm
 have hkn:K (p.b+j)=none:=by rcases hj with rfl|rfl;exact(d6 p hpm).1;exact(d6 p hpm).2
 obtain⟨k1,k2,k3,k4,k5⟩:=h.keep (b:=p.b+j) (u:=u) hkn (by omega) (fun e=>by have:=(d8 _ e).2.2.2.2 p hpm;omega) (fun e=>by have:=(d9 _ e).2.2.2 p hpm;omega) (by omega)
 have hs:Same S.pl (S.pl.set i p'):=same_set hp hb
 have hlen:(S.pl.set i p').length=S.pl.length:=List.length_set
 have hmap:(S.reached.map fun k=>visitV (bOf (S.pl.set i p') k))=S.reached.map fun k=>visitV (bOf S.pl k):=by
  apply List.map_congr_left
  intro k _
  by_cases hk:k<S.pl.length
  ·rw [hs k hk]
  ·unfold bOf;rw [List.getElem?_eq_none (by omega),List.getElem?_eq_none (by omega)]
 have far:∀(k:Nat) (q:Pl),k≠i→S.pl[k]? =some q→∀c,c<8→q.b+c≠p.b+j:=fun k q hk hq c hc=>by
  have:=h.dis.far hq hp hk;omega
 have hlist:∀q,q∈S.pl.set i p'→(q=p')∨∃k,k≠i∧S.pl[k]? =some q:=fun q hq=>by
  rcases set_mem hq with ⟨e,_⟩|e
  ·exact .inl e
  ·exact .inr e
 have bk:∀(k:Nat) (q:Pl),(S.pl.set i p')[k]? =some q→∃q0,S.pl[k]? =some q0∧q.b=q0.b:=fun k q hq=>by
  rcases set_back hp hq with ⟨rfl,rfl⟩|⟨_,hq⟩
  ·exact⟨p,hp,hb⟩
  ·exact⟨q,hq,rfl⟩
 refine⟨⟨d1,d2,d3,d4,fun q hq=>?_,fun q hq=>?_,fun a b q r hq hr' hab=>?_,fun g hg=>?_,fun g hg=>?_⟩,k1,k2,k3,?_,h.hv,?_,k5,h.cl,fun q h1 h2=>?_,fun q hq=>?_,fun q hq=>?_,fun q hq=>?_,fun q hq=>?_,fun k hk=>by show k<(S.pl.set i p').length;rw [hlen];exact h.rl k hk,h.kc⟩
 ·rcases hlist q hq with rfl|⟨k,_,hq⟩
  ·rw [hb];exact hep
  ·exact d5 q (List.mem_of_getElem? hq)
 ·rcases hlist q hq with rfl|⟨k,_,hq⟩
  ·rw [hb];exact d6 p hpm
  ·exact d6 q (List.mem_of_getElem? hq)
 ·obtain⟨q0,a1,a2⟩:=bk a q hq
  obtain⟨r0,b1,b2⟩:=bk b r hr'
  rw [a2,b2];exact d7 a b q0 r0 a1 b1 hab
 ·have:=d8 g hg
  refine⟨this.1,this.2.1,this.2.2.1,this.2.2.2.1,fun q hq=>?_⟩
  rcases hlist q hq with rfl|⟨k,_,hq⟩
  ·rw [hb];exact this.2.2.2.2 p hpm
  ·exact this.2.2.2.2 q (List.mem_of_getElem? hq)
 ·have:=d9 g hg
  refine⟨this.1,this.2.1,this.2.2.1,fun q hq=>?_⟩
  rcases hlist q hq with rfl|⟨k,_,hq⟩
  ·rw [hb];exact this.2.2.2 p hpm
  ·exact this.2.2.2 q (List.mem_of_getElem? hq)
 ·rw [Below.heap_setCell _ _ _ _ (by show X.e≠p.b+j;omega)];exact h.he
 ·show RowV tF X.w0.heap.size _ vr (S.reached.map fun k=>visitV (bOf (S.pl.set i p') k))
  rw [hmap];exact k4
 ·obtain⟨q0,a,b⟩:=h.cw q h1 h2
  have hq0:=(h.pk q0 (List.mem_of_getElem? a)).2
  by_cases e:S.waiting[q]=i
  ·rw [e]at a
   rw [hp]at a;cases a
   exact⟨p',by show(S.pl.set i p')[S.waiting[q]]? =_;rw [e,List.getElem?_set_self hil],b.same hs hq0 ht hn⟩
  ·exact⟨q0,by show(S.pl.set i p')[S.waiting[q]]? =_;rw [List.getElem?_set_ne (fun e'=>e e'.symm)];exact a,b.same hs hq0 rfl rfl⟩
 ·rcases hlist q hq with rfl|⟨k,_,hq⟩
  ·have:=h.pk p hpm
   exact⟨this.1.same hs this.2 hb hn hr,by rw [hn];show _≤(S.pl.set i q).length;rw [hlen];exact this.2⟩
  ·have:=h.pk q (List.mem_of_getElem? hq)
   exact⟨this.1.same hs this.2 rfl rfl rfl,by show _≤(S.pl.set i p').length;rw [hlen];exact this.2⟩
 ·rcases hlist q hq with rfl|⟨k,hki,hq⟩
  ·obtain⟨g,a,b,c⟩:=h4
   refine⟨g,by rw [hb];exact a,b,fun sh e=>?_⟩
   obtain⟨c1,c2⟩:=c sh e
   exact⟨c1.same hs (h.pk p hpm).2 c2 ht hn,fun l e' r hr'=>by show r≤(S.pl.set i q).length;rw [hlen];exact c2 l e' r hr'⟩
  ·obtain⟨g,a,b,c⟩:=h.hg q (List.mem_of_getElem? hq)
   refine⟨g,by rw [Below.heap_setCell _ _ _ _ (far k q hki hq 4 (by omega))];exact a,b,fun sh e=>?_⟩
   obtain⟨c1,c2⟩:=c sh e
   exact⟨c1.same hs (h.pk q (List.mem_of_getElem? hq)).2 c2 rfl rfl,fun l e' r hr'=>by show r≤(S.pl.set i p').length;rw [hlen];exact c2 l e' r hr'⟩
 ·rcases hlist q hq with rfl|⟨k,hki,hq⟩
  ·rw [hb];exact h7
  ·rw [Below.heap_setCell _ _ _ _ (far k q hki hq 7 (by omega))];exact h.h7 q (List.mem_of_getElem? hq)
 ·rcases hlist q hq with rfl|⟨k,hki,hq⟩
  ·have:=h.rd p hpm;rw [he,hr,ht];exact this
  ·exact h.rd q (List.mem_of_getElem? hq)
theorem Rep.setVis (h:Rep X K vr vw cs w S){i:Nat}{p:Pl}(hp:S.pl[i]? =some p)(n:Int):Rep X K vr vw cs (w.setCell ⟨p.b+7,0,none⟩ (.int .i64 n)) { S with pl:=S.pl.set i { p with vis:=n } }:=by
 have hpm:=List.mem_of_getElem? hp
 refine h.setPl (p':={ p with vis:=n }) hp rfl rfl rfl rfl rfl (.inr rfl) ⟨_,rfl⟩ ?_ (one_setCell (h.h7 p hpm))
 obtain⟨g,a,b⟩:=h.hg p hpm
 exact⟨g,by rw [Below.heap_setCell _ _ _ _ (by show p.b+4≠p.b+7;omega)];exact a,b⟩
theorem Rep.setSh (h:Rep X K vr vw cs w S){i:Nat}{p:Pl}(hp:S.pl[i]? =some p){g:Value}{sh:Vs}(hv:VsK X K S.pl p g sh)(hl:∀l,sh=.ways l→∀r,r∈l→r≤S.pl.length):Rep X K vr vw cs (w.setCell ⟨p.b+4,0,none⟩ g) { S with pl:=S.pl.set i { p with sh:=some sh } }:=by
 have hpm:=List.mem_of_getElem? hp
 obtain⟨g0,a,_⟩:=h.hg p hpm
 refine h.setPl (p':={ p with sh:=some sh }) hp rfl rfl rfl rfl rfl (.inl rfl) ⟨_,rfl⟩ ⟨g,one_setCell a,fun e=>(by cases e),fun sh' e=>(by cases e;exact⟨hv,hl⟩)⟩ ?_
 rw [Below.heap_setCell _ _ _ _ (by show p.b+7≠p.b+4;omega)];exact h.h7 p hpm
theorem Rep.place (h:Rep X K vr vw cs w S){t:Pat}{e:Nat}{r:PatR}{nx b:Nat}(hb:b=w.heap.size)(hB:Below w.heap.size w w')(hnx:nx≤S.pl.length)(hrd:RdN patK e X.w0 r t∧t.x.text.size≤9223372036854775807∧TxFit e t.kids)
  (b0:w'.heap[b]? =some (bx (ptr X.m) tM)) (b1:w'.heap[b+1]? =some (.cells #[.int .i64 r.op,.string r.text,r.kv] 92 (0,0))) (b2:w'.heap[b+2]? =some (bx (refV X S.pl nx) tF)) (b3:w'.heap[b+3]? =some (bx (placeV b) tF))
  (b4:w'.heap[b+4]? =some (bx .nilFunc tF)) (b5:w'.heap[b+5]? =some (bx (ptr X.m) tM)) (b6:w'.heap[b+6]? =some (bx (visitV b) tF)) (b7:w'.heap[b+7]? =some (bx (.int .i64 (-1)) 3)):
  ∃K',K.le K'∧(∀x,x<w.heap.size→K' x=K x)∧Rep X K' vr vw cs w' { S with pl:=S.pl++ [⟨t,e,r,nx,b,-1,none⟩] }:=by
 obtain⟨K',hK'⟩:∃K':Kn,K'=fun x=>if x=b then some (bx (ptr X.m) tM)else if x=b+1 then some (.cells #[.int .i64 r.op,.string r.text,r.kv] 92 (0,0))else if x=b+2 then some (bx (refV X S.pl nx) tF)else if x=b+3 then some (bx (placeV b) tF)else if x=b+5 then some (bx (ptr X.m) tM)else if x=b+6 then some (bx (visitV b) tF)else K x:=⟨_,rfl⟩
 have hfree:∀x,b≤x→K x=none:=fun x hx=>h.new_free (by omega)
 have hle:K.le K':=fun x o hx=>by
  have hlt:=blk_lt (h.hk x o hx)
  rw [hK'];dsimp only
  rw [if_neg (by omega),if_neg (by omega),if_neg (by omega),if_neg (by omega),if_neg (by omega),if_neg (by omega)];exact hx
 have h1:Rep X K' vr vw cs w' S:=h.turn hB hle fun x o hx=>by
  rw [hK']at hx;dsimp only at hx
  split at hx
  ·rename_i e';cases hx;subst e';exact .inr ⟨by omega,b0,rfl⟩
  split at hx
  ·rename_i e';cases hx;subst e';exact .inr ⟨by omega,b1,rfl⟩
  split at hx
  ·rename_i e';cases hx;subst e';exact .inr ⟨by omega,b2,rfl⟩
  split at hx
  ·rename_i e';cases hx;subst e';exact .inr ⟨by omega,b3,rfl⟩
  split at hx
  ·rename_i e';cases hx;subst e';exact .inr ⟨by omega,b5,rfl⟩
  split at hx
  ·rename_i e';cases hx;subst e';exact .inr ⟨by omega,b6,rfl⟩
  ·exact .inl hx
 refine⟨K',hle,fun x hx=>by
  rw [hK'];dsimp only
  rw [if_neg (by omega),if_neg (by omega),if_neg (by omega),if_neg (by omega),if_neg (by omega),if_neg (by omega)],?_⟩
 obtain⟨d1,d2,d3,d4,d5,d6,d7,d8,d9⟩:=h1.dis
 have hs:Same S.pl (S.pl++ [⟨t,e,r,nx,b,-1,none⟩]):=same_app _ _
 have hlen:(S.pl++ [(⟨t,e,r,nx,b,-1,none⟩:Pl)]).length=S.pl.length+1:=by simp
 have hmap:(S.reached.map fun k=>visitV (bOf (S.pl++ [⟨t,e,r,nx,b,-1,none⟩]) k))=S.reached.map fun k=>visitV (bOf S.pl k):=by
  apply List.map_congr_left
  intro k hk
  rw [hs k (h.rl k hk)]
 have hlist:∀q,q∈S.pl++ [(⟨t,e,r,nx,b,-1,none⟩:Pl)]→q∈S.pl∨q=⟨t,e,r,nx,b,-1,none⟩:=fun q hq=>by simpa using hq
 have pbl:∀q,q∈S.pl→q.b+8≤b:=fun q hq=>by
  have:=blk_lt (h.h7 q hq);omega
 refine⟨⟨d1,d2,d3,d4,fun q hq=>?_,fun q hq=>?_,fun i j q q' hq hq' hij=>?_,fun g hg=>?_,fun g hg=>?_⟩,h1.bel,h1.hk,h1.hm,h1.he,h1.hv,?_,h1.rw,h1.cl,fun q h2 h3=>?_,fun q hq=>?_,fun q hq=>?_,fun q hq=>?_,fun q hq=>?_,fun k hk=>by have:=h.rl k hk;show k<(S.pl++_).length;rw [hlen];omega,h1.kc⟩
 ·rcases hlist q hq with hq|rfl
  ·exact d5 q hq
  ·have:=blk_lt h.he;show X.e<b;omega
 ·rcases hlist q hq with hq|rfl
  ·exact d6 q hq
  ·refine⟨?_,?_⟩
   ·show K' (b+4)=none
    rw [hK'];dsimp only
    rw [if_neg (by omega),if_neg (by omega),if_neg (by omega),if_neg (by omega),if_neg (by omega),if_neg (by omega)];exact hfree _ (by omega)
   ·show K' (b+7)=none
    rw [hK'];dsimp only
    rw [if_neg (by omega),if_neg (by omega),if_neg (by omega),if_neg (by omega),if_neg (by omega),if_neg (by omega)];exact hfree _ (by omega)
 ·have hil:=(List.getElem?_eq_some_iff.1 hq').1
  rw [hlen]at hil
  rw [List.getElem?_append_left (by omega)]at hq
  by_cases hj:j<S.pl.length
  ·rw [List.getElem?_append_left hj]at hq';exact d7 i j q q' hq hq' hij
  ·have e':j=S.pl.length:=by omega
   subst e'
   simp at hq'
   subst hq'
   exact pbl q (List.mem_of_getElem? hq)
 ·have h9:=d8 g hg
  refine⟨h9.1,h9.2.1,h9.2.2.1,h9.2.2.2.1,fun q hq=>?_⟩
  rcases hlist q hq with hq|rfl
  ·exact h9.2.2.2.2 q hq
  ·have:=(h.own_r hg).2;exact⟨by show g≠b+4;omega,by show g≠b+7;omega⟩
 ·have h9:=d9 g hg
  refine⟨h9.1,h9.2.1,h9.2.2.1,fun q hq=>?_⟩
  rcases hlist q hq with hq|rfl
  ·exact h9.2.2.2 q hq
  ·have:=(h.own_w hg).2;exact⟨by show g≠b+4;omega,by show g≠b+7;omega⟩
 ·show RowV tF X.w0.heap.size _ vr (S.reached.map fun k=>visitV (bOf (S.pl++ [⟨t,e,r,nx,b,-1,none⟩]) k))
  rw [hmap];exact h1.rr
 ·obtain⟨q0,a,b'⟩:=h1.cw q h2 h3
  exact⟨q0,by show(S.pl++_)[S.waiting[q]]? =_;rw [List.getElem?_append_left (List.getElem?_eq_some_iff.1 a).1];exact a,b'.same hs (h1.pk q0 (List.mem_of_getElem? a)).2 rfl rfl⟩
 ·rcases hlist q hq with hq|rfl
  ·have:=h1.pk q hq
   exact⟨this.1.same hs this.2 rfl rfl rfl,by show _≤(S.pl++_).length;rw [hlen];omega⟩
  ·refine⟨⟨?_,?_,?_,?_,?_,?_⟩,by show nx≤(S.pl++_).length;rw [hlen];omega⟩
   ·show K' b=_;rw [hK'];dsimp only;rw [if_pos rfl]
   ·show K' (b+1)=_;rw [hK'];dsimp only;rw [if_neg (by omega),if_pos rfl]
   ·show K' (b+2)=some (bx (refV X (S.pl++_) nx) tF);rw [ref_same hs hnx,hK'];dsimp only;rw [if_neg (by omega),if_neg (by omega),if_pos rfl]
   ·show K' (b+3)=_;rw [hK'];dsimp only;rw [if_neg (by omega),if_neg (by omega),if_neg (by omega),if_pos rfl]
   ·show K' (b+5)=_;rw [hK'];dsimp only;rw [if_neg (by omega),if_neg (by omega),if_neg (by omega),if_neg (by omega),if_pos rfl]
   ·show K' (b+6)=_;rw [hK'];dsimp only;rw [if_neg (by omega),if_neg (by omega),if_neg (by omega),if_neg (by omega),if_neg (by omega),if_pos rfl]
 ·rcases hlist q hq with hq|rfl
  ·obtain⟨g,a,b',c⟩:=h1.hg q hq
   refine⟨g,a,b',fun sh e'=>?_⟩
   obtain⟨c1,c2⟩:=c sh e'
   exact⟨c1.same hs (h1.pk q hq).2 c2 rfl rfl,fun l e2 r' hr'=>by have:=c2 l e2 r' hr';show r'≤(S.pl++_).length;rw [hlen];omega⟩
  ·exact⟨.nilFunc,b4,fun _=>rfl,fun sh e'=>by cases e'⟩
 ·rcases hlist q hq with hq|rfl
  ·exact h1.h7 q hq
  ·exact b7
 ·rcases hlist q hq with hq|rfl
  ·exact h1.rd q hq
  ·exact hrd
theorem Rep.addOld (h:Rep X K vr vw cs w S){b:Nat}{o:Obj}(ho:w.heap[b]? =some o)(hc:o.isCells=true)(hk:K b=none)(hm:b≠X.m)(he:b≠X.e)(hr:vr.ownBlock≠some b)(hw:vw.ownBlock≠some b)(hp:∀p,p∈S.pl→b≠p.b+4∧b≠p.b+7):Rep X (K.add b o) vr vw cs w S:=by
 have hle:K.le (K.add b o):=Kn.le_add hk
 have hne:∀x,x≠b→K.add b o x=K x:=fun x hx=>if_neg hx
 obtain⟨d1,d2,d3,d4,d5,d6,d7,d8,d9⟩:=h.dis
 refine⟨⟨d1,d2,by rw [hne _ (fun e=>hm e.symm)];exact d3,by rw [hne _ (fun e=>he e.symm)];exact d4,d5,fun p hpm=>⟨by rw [hne _ (fun e=>(hp p hpm).1 e.symm)];exact(d6 p hpm).1,by rw [hne _ (fun e=>(hp p hpm).2 e.symm)];exact(d6 p hpm).2⟩,d7,fun g hg=>?_,fun g hg=>?_⟩,h.bel,fun x o' hx=>?_,h.hm,h.he,hle _ _ h.hv,h.rr,h.rw,h.cl,fun q h1 h2=>?_,fun p hpm=>⟨(h.pk p hpm).1.mono hle,(h.pk p hpm).2⟩,fun p hpm=>?_,h.h7,h.rd,h.rl,fun x o' hx=>?_⟩
 ·have:=d8 g hg
  exact⟨by rw [hne _ (fun e=>hr (by rw [hg,e]))];exact this.1,this.2⟩
 ·have:=d9 g hg
  exact⟨by rw [hne _ (fun e=>hw (by rw [hg,e]))];exact this.1,this.2⟩
 ·unfold Kn.add at hx
  split at hx
  ·rename_i e;cases hx;rw [e];exact ho
  ·exact h.hk x o' hx
 ·obtain⟨p,a,b'⟩:=h.cw q h1 h2;exact⟨p,a,b'.mono hle⟩
 ·obtain⟨g,a,b',c⟩:=h.hg p hpm
  exact⟨g,a,b',fun sh e=>⟨(c sh e).1.mono hle,(c sh e).2⟩⟩
 ·unfold Kn.add at hx
  split at hx
  ·cases hx;exact hc
  ·exact h.kc x o' hx
end
end
section
open Go.RowKit Mac

theorem infoF:(Tryz.prog.info? 1).map (fun i=>(i.zero,i.size,i.bytes))=some (some .nilFunc,1,8):=by kernel_rfl
theorem infoG:(Tryz.prog.info? 172).map (fun i=>(i.zero,i.size,i.bytes))=some (some .nilFunc,1,8):=by kernel_rfl
theorem step_fn_append {w:World}{ops:Array Oper}{o:Oper}{a:Act}{K:Act→World→Prop}{Q:Exit→Act→World→Prop}{E:Prop}(hgd:o.guard=none)(s x:Operand)(t te:TypeId)(i0:TypeInfo)
  (ho:o.op=.call { callee:=.builtin .append,args:=#[s,x],argTypes:=#[t,t] }) (hu:Tryz.prog.underlying t=some (.slice te)) (hi:Tryz.prog.info? te=some i0) (hz0:i0.zero=some .nilFunc) (hz1:i0.size=1) (hz2:i0.bytes=8)
  (B n:Nat) (v:Value) (L:List Value) (hs:a.eval s=v) (hrow:RowV te B w v L) (hn:L.length=n)
  (y:Value) (ad:Addr) (c':Nat) (hx:a.eval x=.slice (some ad) 1 c') (hnews:w.cell? ad=some y) (hy:y.oneCell'=true)
  (hlen:n+1≤2147483648) (hbase:B≤w.heap.size) (q:Nat) (hq:q=n+1)
  (h:∀g' c'' w',RowV te B w' (.slice (some ⟨g',0,none⟩) q c'') (L++ [y])→w.grownBy w' v.ownBlock→(some g'=v.ownBlock∨g'=w.heap.size)→K (a.put o.dst (.slice (some ⟨g',0,none⟩) q c'')) w'):
  if Region.wanted o (yielded ops a.tmps)=true then Oper.wp Tryz.prog o a w K Q else E:=by
 have hw:Region.wanted o (yielded ops a.tmps)=true:=by simp [Region.wanted,hgd]
 rw [if_pos hw]
 subst hn
 subst hq
 obtain⟨v',w',hr,h2,h3,h4,h5⟩:=run_append_own_at (P:=Tryz.prog) w B t o.type te i0 .nilFunc 1 8 hu hi hz0 hz1 hz2 rfl (by decide) v L.length (L.flatMap fun u=>[u]) hrow ad 1 c' [y] rfl (fun j u hj=>by
   cases j with
   | zero=>simp at hj;subst hj;exact hnews
   | succ j=>simp at hj) (fun u hu=>by rw [List.mem_singleton.1 hu];exact hy) (by unfold maxLen;omega) (by omega) hbase
 unfold Oper.wp execOp
 simp only [ho,resolve,invoke,builtin,Sem.run_bind,Sem.run_pure,Result.andThen_ok,List.map_toArray,List.map_cons,List.map_nil,hs,hx,hr]
 rcases h2.2 with ⟨_,h6⟩|⟨g',cap',cur,h6,_⟩
 ·omega
 ·subst h6
  refine h g' cap' w' ?_ h3 ?_
  ·unfold RowV RowR
   rw [List.length_append,List.flatMap_append,List.flatMap_singleton]
   exact h2
  ·rcases h5 with h6|h6
   ·exact .inl h6
   ·exact .inr (Option.some.inj h6)
section
variable {X:Cx} {K K':Kn} {vr vw:Value} {cs:List Nat} {w w':World} {S:Mc}
def CallP (X:Cx)(K:Kn)(vw:Value)(cs:List Nat)(S:Mc)(r:Nat)(e:Ending)(w':World):Prop:=e=.returned (.tuple #[])∧∃vr',Rep X K vr' vw cs w' (call S r)
theorem Rep.cells (h:Rep X K vr vw cs w S):(w.cell? ⟨X.m,0,none⟩=some (.int .i64 S.pos)∧w.cell? ⟨X.m,1,none⟩=some vr∧w.cell? ⟨X.m,2,none⟩=some vw)∧∀j,w.frozen? ⟨X.m,j,none⟩=false:=by
 refine⟨⟨?_,?_,?_⟩,fun j=>?_⟩
 ·rw [cell_of_row _ X.m 0 _ _ _ h.hm];rfl
 ·rw [cell_of_row _ X.m 1 _ _ _ h.hm];rfl
 ·rw [cell_of_row _ X.m 2 _ _ _ h.hm];rfl
 ·exact frozen_of_row _ X.m j _ _ h.hm
theorem end_any (h:Rep X K vr vw cs w S):Calls Tryz.prog 117 #[ptr X.mv,ptr X.e] w (CallP X K vw cs S 0):=by
 have c1:=cell_of_one (h.hk _ _ h.hv)
 have c2:=h.cells.1.1
 have c3:=cell_of_one h.he
 have f3:=free_of_one h.he
 have HR:=hid (h.setEnd S.pos)
 clear h
 go_enter Tryz.func117,Tryz.ntmps117
 go_wp2
 go_end0
 exact⟨rfl,_,HR.out⟩
theorem place_any (h:Rep X K vr vw cs w S){j:Nat}{p:Pl}(hp:S.pl[j]? =some p)(hn:S.reached.length+1≤2147483648):Calls Tryz.prog 156 #[ptr (p.b+7),ptr (p.b+5),ptr (p.b+6)] w (CallP X K vw cs S (j+1)):=by
 have hpm:=List.mem_of_getElem? hp
 have c7:=cell_of_one (h.h7 p hpm)
 have f7:=free_of_one (h.h7 p hpm)
 have c5:=cell_of_one (h.hk _ _ (h.pk p hpm).1.k5)
 have c6:=cell_of_one (h.hk _ _ (h.pk p hpm).1.k6)
 obtain⟨⟨m0,m1,_⟩,fm⟩:=h.cells
 have hil:=(List.getElem?_eq_some_iff.1 hp).1
 by_cases hv:p.vis<S.pos
 ·have hcall:call S (j+1)={ S with pl:=S.pl.set j { p with vis:=S.pos },reached:=S.reached++ [j] }:=by simp only [call,hp];rw [if_pos hv]
  have HV:=hid (fun n=>(h.below (below_drewN (Below.refl _ _) n)).setVis hp S.pos)
  have HB:=hid hcall
  have HN:=hid hn
  have HP:=hid hp
  obtain⟨i0,hi,hz0,hz1,hz2⟩:=info_parts infoF
  clear h hn hcall hp
  go_enter Tryz.func156,Tryz.ntmps156
  go_wp2
  go_quiet (fail)
  go_wp2
  obtain⟨W1,hW1⟩:∃W1,W1=(w.drewN nq).setCell ⟨p.b+7,0,none⟩ (.int .i64 S.pos):=⟨_,rfl⟩
  have h1:=HV.out nq
  rw [←hW1]at h1 ⊢
  have hpm1:({ p with vis:=S.pos }:Pl)∈S.pl.set j { p with vis:=S.pos }:=List.mem_of_getElem? (by rw [List.getElem?_set_self hil])
  have e5:=cell_of_one (h1.hk _ _ (h1.pk _ hpm1).1.k5)
  have e6:=cell_of_one (h1.hk _ _ (h1.pk _ hpm1).1.k6)
  obtain⟨⟨n0,n1,_⟩,fn⟩:=h1.cells
  have fn1:=fn 1
  have hmlt:=h1.mlt
  have hq5:p.b+5<W1.heap.size:=blk_lt (h1.hk _ _ (h1.pk _ hpm1).1.k5)
  have hq6:p.b+6<W1.heap.size:=blk_lt (h1.hk _ _ (h1.pk _ hpm1).1.k6)
  have H1:=hid h1
  have HK5:=hid (h1.pk _ hpm1).1.k5
  have HK6:=hid (h1.pk _ hpm1).1.k6
  clear hW1 h1 HV fn hpm1 c7 f7 c5 c6 m0 m1 fm hpm
  have hmp5:X.m≠p.b+5:=fun e=>by have:=HK5.out;rw [←e,H1.out.dis.km]at this;cases this
  have hmp6:X.m≠p.b+6:=fun e=>by have:=HK6.out;rw [←e,H1.out.dis.km]at this;cases this
  refine wp_region_held_drew (S:=fun w'=>w'.cell? ⟨p.b+5,0,none⟩=some (ptr X.m)∧w'.cell? ⟨p.b+6,0,none⟩=some (visitV p.b)) (by kernel_rfl) ⟨e5,e6⟩ (fun hHeld=>?_)
  refine wpAnyH_take (i:=0) (oi:={ dst:=some 13,op:=Op.load 151 (Operand.tmp 1),type:=151,pos:=_,after:=#[],guard:=none }) (v:=?vp1) rfl (by kernel_rfl) (by kernel_rfl) (by kernel_rfl) (fun _ _ _ h=>h) (Or.inl ⟨by rfl,?hyp1⟩) (by assumption) ?restp1
  case hyp1=>((intro w hSw;(try dsimp only at hSw);go_simp);try with_reducible rfl)
  case' restp1=>(try simp only [Act.put,List.setIfInBounds_toArray,List.set_cons_zero,List.set_cons_succ])
  refine wpAnyH_take (i:=1) (oi:={ dst:=some 14,op:=Op.load 151 (Operand.tmp 1),type:=151,pos:=_,after:=#[],guard:=none }) (v:=?vp2) rfl (by kernel_rfl) (by kernel_rfl) (by kernel_rfl) (fun _ _ _ h=>h) (Or.inl ⟨by rfl,?hyp2⟩) (by assumption) ?restp2
  case hyp2=>((intro w hSw;(try dsimp only at hSw);go_simp);try with_reducible rfl)
  case' restp2=>(try simp only [Act.put,List.setIfInBounds_toArray,List.set_cons_zero,List.set_cons_succ])
  refine wpAnyH_take (i:=2) (oi:={ dst:=some 15,op:=Op.nilCheck (Operand.tmp 14),type:=0,pos:=_,after:=#[{ on:=1,ground:=Ground.data }],guard:=none }) (v:=?vp3) rfl (by kernel_rfl) (by kernel_rfl) (by kernel_rfl) (fun _ _ _ h=>h) (Or.inl ⟨by rfl,?hyp3⟩) (by assumption) ?restp3
  case hyp3=>((intro w hSw;(try dsimp only at hSw);go_simp);try with_reducible rfl)
  case' restp3=>(try simp only [Act.put,List.setIfInBounds_toArray,List.set_cons_zero,List.set_cons_succ])
  refine wpAnyH_take (i:=3) (oi:={ dst:=some 16,op:=Op.fieldAddr 155 (Operand.tmp 15) 1,type:=0,pos:=_,after:=#[{ on:=2,ground:=Ground.data }],guard:=none }) (v:=?vp4) rfl (by kernel_rfl) (by kernel_rfl) (by kernel_rfl) (fun _ _ _ h=>h) (Or.inl ⟨by rfl,?hyp4⟩) (by assumption) ?restp4
  case hyp4=>((intro w hSw;(try dsimp only at hSw);go_simp);try with_reducible rfl)
  case' restp4=>(try simp only [Act.put,List.setIfInBounds_toArray,List.set_cons_zero,List.set_cons_succ])
  refine wpAnyH_take (i:=5) (oi:={ dst:=some 18,op:=Op.load 1 (Operand.tmp 2),type:=1,pos:=_,after:=#[],guard:=none }) (v:=?vp5) rfl (by kernel_rfl) (by kernel_rfl) (by kernel_rfl) (fun _ _ _ h=>h) (Or.inl ⟨by rfl,?hyp5⟩) (by assumption) ?restp5
  case hyp5=>((intro w hSw;(try dsimp only at hSw);go_simp);try with_reducible rfl)
  case' restp5=>(try simp only [Act.put,List.setIfInBounds_toArray,List.set_cons_zero,List.set_cons_succ])
  refine wpAnyH_ready (rs:=[4,6]) (by kernel_rfl) (by simp) ?_
  refine AllReadyH.cons (o:={ dst:=some 17,op:=Op.load 152 (Operand.tmp 16),type:=152,pos:=_,after:=#[{ on:=3,ground:=Ground.data }],guard:=none }) rfl (fun K hK=>?_) (AllReadyH.cons (o:={ dst:=some 19,op:=Op.buildSlice 152 1 #[(0,(Operand.tmp 18))],type:=152,pos:=_,after:=#[{ on:=5,ground:=Ground.data }],guard:=none }) rfl (fun K hK=>?_) AllReadyH.nil)
  ·
   go_simp
   refine hK.out _ _ (by go_keep) (fun hHeld2=>?_)
   clear hK K hHeld;have hHeld:=hHeld2;clear hHeld2
   (try simp only [Act.put,List.setIfInBounds_toArray,List.set_cons_zero,List.set_cons_succ])
   refine wpAnyH_ready (rs:=[6]) (by kernel_rfl) (by simp) ?_
   refine AllReadyH.cons (o:={ dst:=some 19,op:=Op.buildSlice 152 1 #[(0,(Operand.tmp 18))],type:=152,pos:=_,after:=#[{ on:=5,ground:=Ground.data }],guard:=none }) rfl (fun K hK=>?_) AllReadyH.nil
   go_simp
   refine hK.out _ _ (by go_keep) (fun hHeld2=>?_)
   clear hK K hHeld;have hHeld:=hHeld2;clear hHeld2
   (try simp only [Act.put,List.setIfInBounds_toArray,List.set_cons_zero,List.set_cons_succ])
   refine wpAnyH_ready (rs:=[7]) (by kernel_rfl) (by simp) ?_
   refine AllReadyH.cons (o:={ dst:=some 20,op:=Op.call { callee:=Callee.builtin Builtin.append,args:=#[Operand.tmp 17,Operand.tmp 19],argTypes:=#[152,152] },type:=152,pos:=_,after:=#[{ on:=4,ground:=Ground.data },{ on:=6,ground:=Ground.data }],guard:=none }) rfl (fun K hK=>?_) AllReadyH.nil
   refine step_fn_append rfl _ _ 152 tF i0 (by rfl) Tryz.underlying152 hi hz0 hz1 hz2 X.w0.heap.size S.reached.length vr _ (by rfl) (RowR.alloc H1.out.rr _) (by simp) (visitV p.b) ⟨W1.heap.size,0,none⟩ 1 (by rfl) (cell_of_one (heap_alloc_new _ _)) (by rfl) HN.out (by have:=H1.out.bel.size;simp;omega) (S.reached.length+1) rfl ?_
   intro g' c4 w4 hrow4 hg4 hp4
   have hX4:w4.heap[X.m]? =some (.cells #[.int .i64 S.pos,vr,vw] tS (0,0)):=(hg4.block _ (by simp;omega) (fun e=>(H1.out.dis.kr _ e.symm).2.1 rfl)).trans ((Below.heap_alloc _ _ _ hmlt).trans H1.out.hm)
   have f4:w4.frozen? ⟨X.m,1,none⟩=false:=frozen_of_row _ X.m 1 _ _ hX4
   have e4:w4.cell? ⟨X.m,1,none⟩=some vr:=by rw [cell_of_row _ X.m 1 _ _ _ hX4];rfl
   have e7:w4.cell? ⟨p.b+5,0,none⟩=some (ptr X.m):=cell_of_one ((hg4.block _ (by simp;omega) (fun e=>(by have:=(H1.out.dis.kr _ e.symm).1;rw [HK5.out]at this;cases this))).trans ((Below.heap_alloc _ _ _ hq5).trans (H1.out.hk _ _ HK5.out)))
   have e8:w4.cell? ⟨p.b+6,0,none⟩=some (visitV p.b):=cell_of_one ((hg4.block _ (by simp;omega) (fun e=>(by have:=(H1.out.dis.kr _ e.symm).1;rw [HK6.out]at this;cases this))).trans ((Below.heap_alloc _ _ _ hq6).trans (H1.out.hk _ _ HK6.out)))
   refine hK.out _ _ ⟨e7,e8⟩ (fun hHeld2=>?_)
   clear hK K hHeld;have hHeld:=hHeld2;clear hHeld2
   (try simp only [Act.put,List.setIfInBounds_toArray,List.set_cons_zero,List.set_cons_succ])
   refine wpAnyH_take (i:=8) (oi:={ dst:=some 21,op:=Op.nilCheck (Operand.tmp 13),type:=0,pos:=_,after:=#[{ on:=0,ground:=Ground.data },{ on:=0,ground:=Ground.phase },{ on:=1,ground:=Ground.phase },{ on:=2,ground:=Ground.phase },{ on:=3,ground:=Ground.phase },{ on:=4,ground:=Ground.phase },{ on:=5,ground:=Ground.phase },{ on:=6,ground:=Ground.phase },{ on:=7,ground:=Ground.phase }],guard:=none }) (v:=?vp6) rfl (by kernel_rfl) (by kernel_rfl) (by kernel_rfl) (fun _ _ _ h=>h) (Or.inl ⟨by rfl,?hyp6⟩) (by assumption) ?restp6
   case hyp6=>((intro w hSw;(try dsimp only at hSw);go_simp);try with_reducible rfl)
   case' restp6=>(try simp only [Act.put,List.setIfInBounds_toArray,List.set_cons_zero,List.set_cons_succ])
   refine wpAnyH_take (i:=9) (oi:={ dst:=some 22,op:=Op.fieldAddr 155 (Operand.tmp 21) 1,type:=0,pos:=_,after:=#[{ on:=8,ground:=Ground.data },{ on:=0,ground:=Ground.phase },{ on:=1,ground:=Ground.phase },{ on:=2,ground:=Ground.phase },{ on:=3,ground:=Ground.phase },{ on:=4,ground:=Ground.phase },{ on:=5,ground:=Ground.phase },{ on:=6,ground:=Ground.phase },{ on:=7,ground:=Ground.phase }],guard:=none }) (v:=?vp7) rfl (by kernel_rfl) (by kernel_rfl) (by kernel_rfl) (fun _ _ _ h=>h) (Or.inl ⟨by rfl,?hyp7⟩) (by assumption) ?restp7
   case hyp7=>((intro w hSw;(try dsimp only at hSw);go_simp);try with_reducible rfl)
   case' restp7=>(try simp only [Act.put,List.setIfInBounds_toArray,List.set_cons_zero,List.set_cons_succ])
   refine wpAnyH_ready (rs:=[10]) (by kernel_rfl) (by simp) ?_
   refine AllReadyH.cons (o:={ dst:=none,op:=Op.store 152 (Operand.tmp 22) (Operand.tmp 20),type:=0,pos:=_,after:=#[{ on:=9,ground:=Ground.data },{ on:=7,ground:=Ground.data },{ on:=7,ground:=Ground.chain },{ on:=0,ground:=Ground.phase },{ on:=1,ground:=Ground.phase },{ on:=2,ground:=Ground.phase },{ on:=3,ground:=Ground.phase },{ on:=4,ground:=Ground.phase },{ on:=5,ground:=Ground.phase },{ on:=6,ground:=Ground.phase },{ on:=7,ground:=Ground.phase }],guard:=none }) rfl (fun K hK=>?_) AllReadyH.nil
   go_simp
   refine hK.out _ _ (by go_keep) (fun hHeld2=>?_)
   clear hK K hHeld;have hHeld:=hHeld2;clear hHeld2
   (try simp only [Act.put,List.setIfInBounds_toArray,List.set_cons_zero,List.set_cons_succ])
   refine wpAnyH_done (by kernel_rfl) ?_ _
   have HF:Hid (CallP X K vw cs S (j+1) (.returned (.tuple #[])) (w4.setCell ⟨X.m,1,none⟩ (.slice (some ⟨g',0,none⟩) (S.reached.length+1) c4))):=hid (by
    refine⟨rfl,.slice (some ⟨g',0,none⟩) (S.reached.length+1) c4,?_⟩
    rw [HB.out]
    refine(H1.out.below (w':=(W1.alloc (.cells #[visitV p.b] tF)).drew) (below_al (Below.refl _ _) _).drew).setReached (R:=S.reached++ [j]) hg4 ?_ (fun g e=>?_) (fun i hi=>?_)
    ·show RowV tF X.w0.heap.size w4 _ ((S.reached++ [j]).map fun i=>visitV (bOf (S.pl.set j { p with vis:=S.pos }) i))
     rw [List.map_append,List.map_singleton,bOf_eq (L:=S.pl.set j { p with vis:=S.pos }) (j:=j) (p:={ p with vis:=S.pos }) (List.getElem?_set_self hil)]
     exact hrow4
    ·have e':some g'=some g:=e
     rcases hp4 with h1|h1
     ·exact .inl (h1.symm.trans e')
     ·exact .inr (by have:=Option.some.inj e';simp at h1 ⊢;omega)
    ·rcases List.mem_append.1 hi with h1|h1
     ·exact H1.out.rl i h1
     ·rw [List.mem_singleton.1 h1];show j<(S.pl.set j _).length;rw [List.length_set];exact hil)
   clear hrow4 hg4 hp4 hX4 f4 e4 e7 e8
   go_wp2
   go_end0
   exact HF.out
  ·
   go_simp
   refine hK.out _ _ (by go_keep) (fun hHeld2=>?_)
   clear hK K hHeld;have hHeld:=hHeld2;clear hHeld2
   (try simp only [Act.put,List.setIfInBounds_toArray,List.set_cons_zero,List.set_cons_succ])
   refine wpAnyH_ready (rs:=[4]) (by kernel_rfl) (by simp) ?_
   refine AllReadyH.cons (o:={ dst:=some 17,op:=Op.load 152 (Operand.tmp 16),type:=152,pos:=_,after:=#[{ on:=3,ground:=Ground.data }],guard:=none }) rfl (fun K hK=>?_) AllReadyH.nil
   go_simp
   refine hK.out _ _ (by go_keep) (fun hHeld2=>?_)
   clear hK K hHeld;have hHeld:=hHeld2;clear hHeld2
   (try simp only [Act.put,List.setIfInBounds_toArray,List.set_cons_zero,List.set_cons_succ])
   refine wpAnyH_ready (rs:=[7]) (by kernel_rfl) (by simp) ?_
   refine AllReadyH.cons (o:={ dst:=some 20,op:=Op.call { callee:=Callee.builtin Builtin.append,args:=#[Operand.tmp 17,Operand.tmp 19],argTypes:=#[152,152] },type:=152,pos:=_,after:=#[{ on:=4,ground:=Ground.data },{ on:=6,ground:=Ground.data }],guard:=none }) rfl (fun K hK=>?_) AllReadyH.nil
   refine step_fn_append rfl _ _ 152 tF i0 (by rfl) Tryz.underlying152 hi hz0 hz1 hz2 X.w0.heap.size S.reached.length vr _ (by rfl) (RowR.alloc H1.out.rr _) (by simp) (visitV p.b) ⟨W1.heap.size,0,none⟩ 1 (by rfl) (cell_of_one (heap_alloc_new _ _)) (by rfl) HN.out (by have:=H1.out.bel.size;simp;omega) (S.reached.length+1) rfl ?_
   intro g' c4 w4 hrow4 hg4 hp4
   have hX4:w4.heap[X.m]? =some (.cells #[.int .i64 S.pos,vr,vw] tS (0,0)):=(hg4.block _ (by simp;omega) (fun e=>(H1.out.dis.kr _ e.symm).2.1 rfl)).trans ((Below.heap_alloc _ _ _ hmlt).trans H1.out.hm)
   have f4:w4.frozen? ⟨X.m,1,none⟩=false:=frozen_of_row _ X.m 1 _ _ hX4
   have e4:w4.cell? ⟨X.m,1,none⟩=some vr:=by rw [cell_of_row _ X.m 1 _ _ _ hX4];rfl
   have e7:w4.cell? ⟨p.b+5,0,none⟩=some (ptr X.m):=cell_of_one ((hg4.block _ (by simp;omega) (fun e=>(by have:=(H1.out.dis.kr _ e.symm).1;rw [HK5.out]at this;cases this))).trans ((Below.heap_alloc _ _ _ hq5).trans (H1.out.hk _ _ HK5.out)))
   have e8:w4.cell? ⟨p.b+6,0,none⟩=some (visitV p.b):=cell_of_one ((hg4.block _ (by simp;omega) (fun e=>(by have:=(H1.out.dis.kr _ e.symm).1;rw [HK6.out]at this;cases this))).trans ((Below.heap_alloc _ _ _ hq6).trans (H1.out.hk _ _ HK6.out)))
   refine hK.out _ _ ⟨e7,e8⟩ (fun hHeld2=>?_)
   clear hK K hHeld;have hHeld:=hHeld2;clear hHeld2
   (try simp only [Act.put,List.setIfInBounds_toArray,List.set_cons_zero,List.set_cons_succ])
   refine wpAnyH_take (i:=8) (oi:={ dst:=some 21,op:=Op.nilCheck (Operand.tmp 13),type:=0,pos:=_,after:=#[{ on:=0,ground:=Ground.data },{ on:=0,ground:=Ground.phase },{ on:=1,ground:=Ground.phase },{ on:=2,ground:=Ground.phase },{ on:=3,ground:=Ground.phase },{ on:=4,ground:=Ground.phase },{ on:=5,ground:=Ground.phase },{ on:=6,ground:=Ground.phase },{ on:=7,ground:=Ground.phase }],guard:=none }) (v:=?vp8) rfl (by kernel_rfl) (by kernel_rfl) (by kernel_rfl) (fun _ _ _ h=>h) (Or.inl ⟨by rfl,?hyp8⟩) (by assumption) ?restp8
   case hyp8=>((intro w hSw;(try dsimp only at hSw);go_simp);try with_reducible rfl)
   case' restp8=>(try simp only [Act.put,List.setIfInBounds_toArray,List.set_cons_zero,List.set_cons_succ])
   refine wpAnyH_take (i:=9) (oi:={ dst:=some 22,op:=Op.fieldAddr 155 (Operand.tmp 21) 1,type:=0,pos:=_,after:=#[{ on:=8,ground:=Ground.data },{ on:=0,ground:=Ground.phase },{ on:=1,ground:=Ground.phase },{ on:=2,ground:=Ground.phase },{ on:=3,ground:=Ground.phase },{ on:=4,ground:=Ground.phase },{ on:=5,ground:=Ground.phase },{ on:=6,ground:=Ground.phase },{ on:=7,ground:=Ground.phase }],guard:=none }) (v:=?vp9) rfl (by kernel_rfl) (by kernel_rfl) (by kernel_rfl) (fun _ _ _ h=>h) (Or.inl ⟨by rfl,?hyp9⟩) (by assumption) ?restp9
   case hyp9=>((intro w hSw;(try dsimp only at hSw);go_simp);try with_reducible rfl)
   case' restp9=>(try simp only [Act.put,List.setIfInBounds_toArray,List.set_cons_zero,List.set_cons_succ])
   refine wpAnyH_ready (rs:=[10]) (by kernel_rfl) (by simp) ?_
   refine AllReadyH.cons (o:={ dst:=none,op:=Op.store 152 (Operand.tmp 22) (Operand.tmp 20),type:=0,pos:=_,after:=#[{ on:=9,ground:=Ground.data },{ on:=7,ground:=Ground.data },{ on:=7,ground:=Ground.chain },{ on:=0,ground:=Ground.phase },{ on:=1,ground:=Ground.phase },{ on:=2,ground:=Ground.phase },{ on:=3,ground:=Ground.phase },{ on:=4,ground:=Ground.phase },{ on:=5,ground:=Ground.phase },{ on:=6,ground:=Ground.phase },{ on:=7,ground:=Ground.phase }],guard:=none }) rfl (fun K hK=>?_) AllReadyH.nil
   go_simp
   refine hK.out _ _ (by go_keep) (fun hHeld2=>?_)
   clear hK K hHeld;have hHeld:=hHeld2;clear hHeld2
   (try simp only [Act.put,List.setIfInBounds_toArray,List.set_cons_zero,List.set_cons_succ])
   refine wpAnyH_done (by kernel_rfl) ?_ _
   have HF:Hid (CallP X K vw cs S (j+1) (.returned (.tuple #[])) (w4.setCell ⟨X.m,1,none⟩ (.slice (some ⟨g',0,none⟩) (S.reached.length+1) c4))):=hid (by
    refine⟨rfl,.slice (some ⟨g',0,none⟩) (S.reached.length+1) c4,?_⟩
    rw [HB.out]
    refine(H1.out.below (w':=(W1.alloc (.cells #[visitV p.b] tF)).drew) (below_al (Below.refl _ _) _).drew).setReached (R:=S.reached++ [j]) hg4 ?_ (fun g e=>?_) (fun i hi=>?_)
    ·show RowV tF X.w0.heap.size w4 _ ((S.reached++ [j]).map fun i=>visitV (bOf (S.pl.set j { p with vis:=S.pos }) i))
     rw [List.map_append,List.map_singleton,bOf_eq (L:=S.pl.set j { p with vis:=S.pos }) (j:=j) (p:={ p with vis:=S.pos }) (List.getElem?_set_self hil)]
     exact hrow4
    ·have e':some g'=some g:=e
     rcases hp4 with h1|h1
     ·exact .inl (h1.symm.trans e')
     ·exact .inr (by have:=Option.some.inj e';simp at h1 ⊢;omega)
    ·rcases List.mem_append.1 hi with h1|h1
     ·exact H1.out.rl i h1
     ·rw [List.mem_singleton.1 h1];show j<(S.pl.set j _).length;rw [List.length_set];exact hil)
   clear hrow4 hg4 hp4 hX4 f4 e4 e7 e8
   go_wp2
   go_end0
   exact HF.out
 ·have hcall:call S (j+1)=S:=by simp only [call,hp];rw [if_neg hv]
  have HR:Hid (∀n,CallP X K vw cs S (j+1) (.returned (.tuple #[])) (w.drewN n)):=hid fun n=>⟨rfl,vr,by rw [hcall];exact h.below (below_drewN (Below.refl _ _) n)⟩
  clear h hcall hn
  go_enter Tryz.func156,Tryz.ntmps156
  go_wp2
  go_quiet (fail)
  go_wp2
  go_end0
  exact HR.out _
end
end
end Go.Proofs.YtecladbckadijaaGreatDoor
