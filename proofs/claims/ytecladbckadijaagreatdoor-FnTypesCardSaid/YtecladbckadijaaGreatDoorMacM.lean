/- MERGED for a claim. -/
import Derived.Test.YtecladbckadijaaGreatDoorMacH
import Derived.RangeFuncBox
import Derived.Shelf.RegionOpen
import Derived.OwnWalkIn
import Derived.TacticsInMore
import Derived.LoopNIn
import Derived.LoopIn
set_option linter.unusedVariables false
set_option linter.unusedSimpArgs false
set_option maxRecDepth 100000
set_option maxHeartbeats 16000000
namespace Go.Proofs.YtecladbckadijaaGreatDoor
open Go.Lib (hid)
section
open Go.RowKit Mac

section
variable {X:Cx} {K K':Kn} {vr vw:Value} {cs:List Nat} {w w':World} {S:Mc} {D:Nat}
def VofP (X:Cx)(K:Kn)(vr vw:Value)(cs:List Nat)(S:Mc)(D i:Nat)(p:Pl)(w:World)(e:Ending)(w':World):Prop:=
 ∃K' nn sh g,e=.returned g∧K.le K'∧Rep X K' vr vw cs w' { S with pl:=S.pl++nn }∧Below w.heap.size w w'∧VsK X K' (S.pl++nn) p g sh∧Shaped (S.pl++nn) i p sh∧News D S p nn∧(∀l,sh=.ways l→∀r,r∈l→r≤(S.pl++nn).length)
theorem news_nil {p:Pl}(ho:Ord S.pl):News D S p []:=⟨fun q hq=>(List.not_mem_nil hq).elim,(by rw [List.append_nil];exact ho),Nat.zero_le _⟩
theorem news_one {p:Pl}{k:Pat}{d:Nat}{r:PatR}{nx b:Nat}(ho:Ord S.pl)(hp:p.t.kids=[k])(he:p.e=d+1)(hD:p.e≤D)(hd:DeepL d k.kids)(hnx:nx≤S.pl.length):News D S p [⟨k,d,r,nx,b,-1,none⟩]:=by
 refine⟨fun q hq=>?_,fun j q hq=>?_,?_⟩
 ·rw [List.mem_singleton.1 hq];exact⟨rfl,rfl,by show d≤D;omega,hd⟩
 ·by_cases hj:j<S.pl.length
  ·rw [List.getElem?_append_left hj]at hq;exact ho j q hq
  ·have hl:=(List.getElem?_eq_some_iff.1 hq).1
   simp at hl
   have e:j=S.pl.length:=by omega
   subst e
   simp at hq
   subst hq
   exact hnx
 ·rw [hp,he]
  simp [sumL,nw,cntL]
theorem tries_le {L:List Pl}{l:List Pat}{b n:Nat}{sh:Vs}(h:Tries L l b n sh)(hb:b≤L.length)(hn:n≤L.length):∀m,sh=.ways m→∀r,r∈m→r≤L.length:=by
 unfold Tries at h
 split at h
 ·obtain⟨r,e,hl⟩:=h
  intro m hm q hq
  rw [e]at hm;cases hm
  rcases List.mem_cons.1 hq with rfl|hq
  ·exact hl.le hb
  ·rw [List.mem_singleton.1 hq];exact hn
 ·intro m hm q hq
  rw [h]at hm;cases hm
  rw [List.mem_singleton.1 hq];exact hn
theorem vof_try {i:Nat}{p:Pl}{behind:Nat}{e:Ending}{w0:World}(ho:Ord S.pl)(hD:p.e≤D)(hb:behind≤S.pl.length)(hnx:p.nx≤S.pl.length)(h4:(p.t.x.op=4∧behind=i+1)∨(p.t.x.op=5∧behind=p.nx))(hB:Below w0.heap.size w0 w)(h:TryP X K vr vw cs S p p.t.kids behind w e w'):VofP X K vr vw cs S D i p w0 e w':=by
 obtain⟨K',nn,sh,g,he,hle,hR,hB2,hv,ht,hn⟩:=h
 refine⟨K',nn,sh,g,he,hle,hR,below_step hB hB2,hv,?_,?_,?_⟩
 ·rcases h4 with ⟨h4,rfl⟩|⟨h4,rfl⟩
  ·exact⟨fun c=>by omega,fun c=>by omega,fun c=>by omega,fun _=>ht,fun c=>by omega,fun _ _ _ c=>absurd h4 c⟩
  ·exact⟨fun c=>by omega,fun c=>by omega,fun c=>by omega,fun c=>by omega,fun _=>ht,fun _ _ _ _ c=>absurd h4 c⟩
 ·rcases hn with rfl|⟨k,d,r,b,h1,h2,rfl,h3⟩
  ·exact news_nil ho
  ·exact news_one ho h1 h2 hD h3 hb
 ·exact tries_le ht (by rw [List.length_append];omega) (by rw [List.length_append];omega)
theorem cnt_each {d:Nat}:∀ {nn:List Pl} {l:List Pat},nn.length=l.length→(∀q (h:q<nn.length) (h':q<l.length),nn[q].t=l[q]∧nn[q].e=d)→sumL nw nn=cntL (d+1) l
 | [],[],_,_=>rfl
 | x :: nn, t :: l, hl, h => by
  have ih:=cnt_each (d:=d) (nn:=nn) (l:=l) (by simpa using hl) (fun q h1 h2=>by have:=h (q+1) (by simpa using h1) (by simpa using h2);simpa using this)
  have h0:=h 0 (by simp) (by simp)
  simp at h0
  simp only [sumL,cntL,List.map_cons,List.sum_cons]at ih ⊢
  rw [ih]
  unfold nw;rw [h0.1,h0.2]
 | [],_::_,hl,_=>by simp at hl
 | _::_,[],hl,_=>by simp at hl
theorem vof_each {i:Nat}{p:Pl}{e:Ending}{w0:World}(ho:Ord S.pl)(hD:p.e≤D)(hd:DeepL p.e p.t.kids)(hnx:p.nx≤S.pl.length)(h3:p.t.x.op=3)(hB:Below w0.heap.size w0 w)(h:EachP X K vr vw cs S p p.t.kids w e w'):VofP X K vr vw cs S D i p w0 e w':=by
 obtain⟨K',nn,sh,g,he,hle,hR,hB2,hv,hnl,hk,hsh⟩:=h
 have hlen:((List.range p.t.kids.length).map fun q=>S.pl.length+q+1).length=p.t.kids.length:=by simp
 have hget:∀q (h:q<nn.length),(S.pl++nn)[S.pl.length+q]? =some nn[q]:=fun q h=>by rw [List.getElem?_append_right (by omega),Nat.add_sub_cancel_left,List.getElem?_eq_getElem h]
 refine⟨K',nn,sh,g,he,hle,hR,below_step hB hB2,hv,⟨fun c=>by omega,fun c=>by omega,fun _=>⟨_,hsh,hlen,fun q h1 h2=>?_⟩,fun c=>by omega,fun c=>by omega,fun _ _ c=>absurd h3 c⟩,⟨fun q hq=>?_,fun j q hq=>?_,?_⟩,fun l hl r hr=>?_⟩
 ·have hq:q<nn.length:=by omega
  obtain⟨k1,k2,_⟩:=hk.each q hq h2
  exact⟨S.pl.length+q,nn[q],by simp,hget q hq,k1,k2⟩
 ·obtain⟨j,hj,rfl⟩:=List.getElem_of_mem hq
  obtain⟨k1,k2,k3,k4,k5,k6⟩:=hk.each j hj (by omega)
  exact⟨k3,k4,by omega,k6⟩
 ·by_cases hj:j<S.pl.length
  ·rw [List.getElem?_append_left hj]at hq;exact ho j q hq
  ·rw [List.getElem?_append_right (by omega)]at hq
   obtain⟨h1,h2⟩:=List.getElem?_eq_some_iff.1 hq
   obtain⟨k1,k2,_⟩:=hk.each _ h1 (by omega)
   rw [←h2,k2];omega
 ·cases hpe:p.e with
  | zero=>rw [hpe]at hd;have:p.t.kids=[]:=hd;rw [this]at hnl ⊢;have:nn=[]:=List.length_eq_zero_iff.1 hnl;rw [this];exact Nat.zero_le _
  | succ d=>exact Nat.le_of_eq (cnt_each hnl fun q h1 h2=>⟨(hk.each q h1 h2).1,by have:=(hk.each q h1 h2).2.2.2.2.1;omega⟩)
 ·rw [hsh]at hl;cases hl
  obtain⟨q,hq,rfl⟩:=List.mem_map.1 hr
  have:=List.mem_range.1 hq
  rw [List.length_append,hnl];omega
structure VofI (X:Cx) (K:Kn) (vr vw:Value) (cs:List Nat) (S:Mc) (D i:Nat) (p:Pl) (w:World):Prop where
 rep:Rep X K vr vw cs w S
 hp:S.pl[i]? =some p
 ord:Ord S.pl
 e:p.e≤D
 deep:DeepL p.e p.t.kids
 few:p.t.kids.length≤2147483647
theorem vof_wait {i:Nat}{p:Pl}{e:Ending}{w0:World}(ho:Ord S.pl)(h1:p.t.x.op=1)(hB:Below w0.heap.size w0 w)(h:e=.returned (waitV w.heap.size)∧∃K',K.le K'∧Rep X K' vr vw cs w' S∧Below w.heap.size w w'∧VsK X K' S.pl p (waitV w.heap.size) .wait):VofP X K vr vw cs S D i p w0 e w':=by
 obtain⟨he,K',a,b,c,d⟩:=h
 exact⟨K',[],.wait,_,he,a,by rw [List.append_nil];exact b,below_step hB c,by rw [List.append_nil];exact d,⟨fun _=>rfl,fun c=>by omega,fun c=>by omega,fun c=>by omega,fun c=>by omega,fun c=>absurd h1 c⟩,news_nil ho,fun l e=>by cases e⟩
theorem try_any (h:Rep X K vr vw cs w S){p:Pl}{kv:Value}{l:List Pat}{behind:Nat}(hrd:RdL patK p.e X.w0 kv l)(hf:TxFit p.e l)(hb:behind≤S.pl.length)(hnx:p.nx≤S.pl.length):
  Calls Tryz.prog 160 #[ptr X.m,kv,refV X S.pl behind,refV X S.pl p.nx] w (TryP X K vr vw cs S p l behind w):=by
 by_cases hl:l.length=1
 ·obtain⟨t,rfl⟩:=List.length_eq_one_iff.1 hl
  cases he:p.e with
  | zero=>rw [he]at hrd;have:=hrd.1;cases this
  | succ d=>rw [he]at hrd hf;exact tryOne_any h hrd hf he hb hnx
 ·obtain⟨A,cap,rfl⟩:=hrd.form
  exact trySkip_any h hl hnx
theorem vof_1 {i:Nat}{p:Pl}(h:VofI X K vr vw cs S D i p w)(hop:p.t.x.op=1):Calls Tryz.prog 135 #[ptr X.m,.agg #[.int .i64 p.r.op,.string p.r.text,p.r.kv],placeV p.b,refV X S.pl p.nx] w (VofP X K vr vw cs S D i p w):=by
 obtain⟨hR,hp,ho,hD,hd,hfew⟩:=h
 have hpm:=List.mem_of_getElem? hp
 have hil:=(List.getElem?_eq_some_iff.1 hp).1
 have hnx:=(hR.pk p hpm).2
 obtain⟨⟨⟨hro,hrt⟩,hrd⟩,htx,hfit⟩:=hR.rd p hpm
 obtain⟨A,cap,hkv⟩:=RdL.form (k:=patK) hrd
 have hkv':p.r.kv=.slice A p.t.kids.length cap:=hkv
 have hrd':RdL patK p.e X.w0 (.slice A p.t.kids.length cap) p.t.kids:=by rw [←hkv'];exact hrd
 have hpl:refV X S.pl (i+1)=placeV p.b:=by show placeV (bOf S.pl i)=_;rw [bOf_eq hp]
 obtain⟨k1,caps1,e1⟩:=ref_fn X S.pl p.nx
 have hro':p.r.op=p.t.x.op:=hro
 have hrt':p.r.text=p.t.x.text:=hrt
 obtain⟨n,hn⟩:∃n,n=p.t.kids.length:=⟨_,rfl⟩
 have hB:Below w.heap.size w (((w.alloc (bx (ptr X.m) tM)).alloc (.cells #[.int .i64 p.t.x.op,.string p.t.x.text,.slice A p.t.kids.length cap] 92)).alloc (bx (.func (.func k1) #[] caps1) tF)):=below_al (below_al (below_al (Below.refl _ _) _) _) _
 have hRW:=hR.below hB
 have HC:=hid (Calls.mono (waitFor_any hRW (p:=p) p.t.x.text rfl) (fun e w' h=>(vof_wait (D:=D) (i:=i) ho hop hB h:VofP X K vr vw cs S D i p w e w')))
 rw [hro',hrt',hkv',e1,←hn]
 rw [e1,←hn]at HC
 rw [hop]at HC ⊢
 clear hR hp ho hD hd hfew hpm hil hnx hro hrt hrd htx hfit hkv hkv' hrd' hpl e1 hro' hrt' hn hB hRW
 go_enter Tryz.func135,Tryz.ntmps135
 go_wp2_with fail
 refine HC.out.mono ?_
 rintro e w2 hV
 obtain⟨g,rfl,HV⟩:∃g,e=.returned g∧Hid (VofP X K vr vw cs S D i p w (.returned g) w2):=by obtain⟨K',nn,sh,g,rfl,rest⟩:=hV;exact⟨g,rfl,hid ⟨K',nn,sh,g,rfl,rest⟩⟩
 clear hV HC
 go_wp2
 go_ret
 exact HV.out
theorem vof_3 {i:Nat}{p:Pl}(h:VofI X K vr vw cs S D i p w)(hop:p.t.x.op=3):Calls Tryz.prog 135 #[ptr X.m,.agg #[.int .i64 p.r.op,.string p.r.text,p.r.kv],placeV p.b,refV X S.pl p.nx] w (VofP X K vr vw cs S D i p w):=by
 obtain⟨hR,hp,ho,hD,hd,hfew⟩:=h
 have hpm:=List.mem_of_getElem? hp
 have hil:=(List.getElem?_eq_some_iff.1 hp).1
 have hnx:=(hR.pk p hpm).2
 obtain⟨⟨⟨hro,hrt⟩,hrd⟩,htx,hfit⟩:=hR.rd p hpm
 obtain⟨A,cap,hkv⟩:=RdL.form (k:=patK) hrd
 have hkv':p.r.kv=.slice A p.t.kids.length cap:=hkv
 have hrd':RdL patK p.e X.w0 (.slice A p.t.kids.length cap) p.t.kids:=by rw [←hkv'];exact hrd
 have hpl:refV X S.pl (i+1)=placeV p.b:=by show placeV (bOf S.pl i)=_;rw [bOf_eq hp]
 obtain⟨k1,caps1,e1⟩:=ref_fn X S.pl p.nx
 have hro':p.r.op=p.t.x.op:=hro
 have hrt':p.r.text=p.t.x.text:=hrt
 obtain⟨n,hn⟩:∃n,n=p.t.kids.length:=⟨_,rfl⟩
 have hB:Below w.heap.size w (((w.alloc (bx (ptr X.m) tM)).alloc (.cells #[.int .i64 p.t.x.op,.string p.t.x.text,.slice A p.t.kids.length cap] 92)).alloc (bx (.func (.func k1) #[] caps1) tF)):=below_al (below_al (below_al (Below.refl _ _) _) _) _
 have hRW:=hR.below hB
 have HC:=hid (Calls.mono (tryEach_any hRW (p:=p) hrd' hfit hnx hfew) (fun e w' h=>(vof_each (D:=D) (i:=i) ho hD hd hnx hop hB h:VofP X K vr vw cs S D i p w e w')))
 rw [hro',hrt',hkv',e1,←hn]
 rw [e1,←hn]at HC
 rw [hop]at HC ⊢
 clear hR hp ho hD hd hfew hpm hil hnx hro hrt hrd htx hfit hkv hkv' hrd' hpl e1 hro' hrt' hn hB hRW
 go_enter Tryz.func135,Tryz.ntmps135
 go_wp2_with fail
 refine HC.out.mono ?_
 rintro e w2 hV
 obtain⟨g,rfl,HV⟩:∃g,e=.returned g∧Hid (VofP X K vr vw cs S D i p w (.returned g) w2):=by obtain⟨K',nn,sh,g,rfl,rest⟩:=hV;exact⟨g,rfl,hid ⟨K',nn,sh,g,rfl,rest⟩⟩
 clear hV HC
 go_wp2
 go_ret
 exact HV.out
theorem vof_4 {i:Nat}{p:Pl}(h:VofI X K vr vw cs S D i p w)(hop:p.t.x.op=4):Calls Tryz.prog 135 #[ptr X.m,.agg #[.int .i64 p.r.op,.string p.r.text,p.r.kv],placeV p.b,refV X S.pl p.nx] w (VofP X K vr vw cs S D i p w):=by
 obtain⟨hR,hp,ho,hD,hd,hfew⟩:=h
 have hpm:=List.mem_of_getElem? hp
 have hil:=(List.getElem?_eq_some_iff.1 hp).1
 have hnx:=(hR.pk p hpm).2
 obtain⟨⟨⟨hro,hrt⟩,hrd⟩,htx,hfit⟩:=hR.rd p hpm
 obtain⟨A,cap,hkv⟩:=RdL.form (k:=patK) hrd
 have hkv':p.r.kv=.slice A p.t.kids.length cap:=hkv
 have hrd':RdL patK p.e X.w0 (.slice A p.t.kids.length cap) p.t.kids:=by rw [←hkv'];exact hrd
 have hpl:refV X S.pl (i+1)=placeV p.b:=by show placeV (bOf S.pl i)=_;rw [bOf_eq hp]
 obtain⟨k1,caps1,e1⟩:=ref_fn X S.pl p.nx
 have hro':p.r.op=p.t.x.op:=hro
 have hrt':p.r.text=p.t.x.text:=hrt
 obtain⟨n,hn⟩:∃n,n=p.t.kids.length:=⟨_,rfl⟩
 have hB:Below w.heap.size w (((w.alloc (bx (ptr X.m) tM)).alloc (.cells #[.int .i64 p.t.x.op,.string p.t.x.text,.slice A p.t.kids.length cap] 92)).alloc (bx (.func (.func k1) #[] caps1) tF)):=below_al (below_al (below_al (Below.refl _ _) _) _) _
 have hRW:=hR.below hB
 have HC:=hid (Calls.mono (try_any hRW (p:=p) (behind:=i+1) hrd' hfit (by omega) hnx) (fun e w' h=>(vof_try (D:=D) (i:=i) ho hD (by omega) hnx (.inl ⟨hop,rfl⟩) hB h:VofP X K vr vw cs S D i p w e w')))
 rw [hpl]at HC
 rw [hro',hrt',hkv',e1,←hn]
 rw [e1,←hn]at HC
 rw [hop]at HC ⊢
 clear hR hp ho hD hd hfew hpm hil hnx hro hrt hrd htx hfit hkv hkv' hrd' hpl e1 hro' hrt' hn hB hRW
 go_enter Tryz.func135,Tryz.ntmps135
 go_wp2_with fail
 refine HC.out.mono ?_
 rintro e w2 hV
 obtain⟨g,rfl,HV⟩:∃g,e=.returned g∧Hid (VofP X K vr vw cs S D i p w (.returned g) w2):=by obtain⟨K',nn,sh,g,rfl,rest⟩:=hV;exact⟨g,rfl,hid ⟨K',nn,sh,g,rfl,rest⟩⟩
 clear hV HC
 go_wp2
 go_ret
 exact HV.out
theorem vof_5 {i:Nat}{p:Pl}(h:VofI X K vr vw cs S D i p w)(hop:p.t.x.op=5):Calls Tryz.prog 135 #[ptr X.m,.agg #[.int .i64 p.r.op,.string p.r.text,p.r.kv],placeV p.b,refV X S.pl p.nx] w (VofP X K vr vw cs S D i p w):=by
 obtain⟨hR,hp,ho,hD,hd,hfew⟩:=h
 have hpm:=List.mem_of_getElem? hp
 have hil:=(List.getElem?_eq_some_iff.1 hp).1
 have hnx:=(hR.pk p hpm).2
 obtain⟨⟨⟨hro,hrt⟩,hrd⟩,htx,hfit⟩:=hR.rd p hpm
 obtain⟨A,cap,hkv⟩:=RdL.form (k:=patK) hrd
 have hkv':p.r.kv=.slice A p.t.kids.length cap:=hkv
 have hrd':RdL patK p.e X.w0 (.slice A p.t.kids.length cap) p.t.kids:=by rw [←hkv'];exact hrd
 have hpl:refV X S.pl (i+1)=placeV p.b:=by show placeV (bOf S.pl i)=_;rw [bOf_eq hp]
 obtain⟨k1,caps1,e1⟩:=ref_fn X S.pl p.nx
 have hro':p.r.op=p.t.x.op:=hro
 have hrt':p.r.text=p.t.x.text:=hrt
 obtain⟨n,hn⟩:∃n,n=p.t.kids.length:=⟨_,rfl⟩
 have hB:Below w.heap.size w (((w.alloc (bx (ptr X.m) tM)).alloc (.cells #[.int .i64 p.t.x.op,.string p.t.x.text,.slice A p.t.kids.length cap] 92)).alloc (bx (.func (.func k1) #[] caps1) tF)):=below_al (below_al (below_al (Below.refl _ _) _) _) _
 have hRW:=hR.below hB
 have HC:=hid (Calls.mono (try_any hRW (p:=p) (behind:=p.nx) hrd' hfit hnx hnx) (fun e w' h=>(vof_try (D:=D) (i:=i) ho hD hnx hnx (.inr ⟨hop,rfl⟩) hB h:VofP X K vr vw cs S D i p w e w')))
 rw [hro',hrt',hkv',e1,←hn]
 rw [e1,←hn]at HC
 rw [hop]at HC ⊢
 clear hR hp ho hD hd hfew hpm hil hnx hro hrt hrd htx hfit hkv hkv' hrd' hpl e1 hro' hrt' hn hB hRW
 go_enter Tryz.func135,Tryz.ntmps135
 go_wp2_with fail
 refine HC.out.mono ?_
 rintro e w2 hV
 obtain⟨g,rfl,HV⟩:∃g,e=.returned g∧Hid (VofP X K vr vw cs S D i p w (.returned g) w2):=by obtain⟨K',nn,sh,g,rfl,rest⟩:=hV;exact⟨g,rfl,hid ⟨K',nn,sh,g,rfl,rest⟩⟩
 clear hV HC
 go_wp2
 go_ret
 exact HV.out
end
end
section
open Go.RowKit Go.Shelf Mac
attribute [local go_sem] Oper.semAt_some

abbrev KidX (R:Nat→PatR)(len:Nat):={ x:Nat×PatR // x.1<len∧x.2=R x.1 }
def kidV {R:Nat→PatR}{len:Nat}(x:KidX R len):Array Value:=#[.int .i64 (x.1.1:Int),.agg #[.int .i64 x.1.2.op,.string x.1.2.text,x.1.2.kv]]
def Downs (R:Nat→PatR)(len k:Nat)(l:List (KidX R len)):Prop:=l.map (fun x=>x.1.1)=((List.range len).drop k).reverse
theorem downs_nil (R:Nat→PatR)(len:Nat):Downs R len len []:=by unfold Downs;simp
theorem downs_step {R:Nat→PatR}{len j:Nat}{l:List (KidX R len)}(h:Downs R len (j+1) l)(hj:j<len):Downs R len j (l++ [⟨(j,R j),hj,rfl⟩]):=by
 unfold Downs at*
 have e:(List.range len).drop j=j::(List.range len).drop (j+1):=by
  have h1:=List.drop_eq_getElem_cons (l:=List.range len) (i:=j) (by simpa using hj)
  rw [List.getElem_range]at h1
  exact h1
 rw [List.map_append,h,e,List.reverse_cons]
 rfl
def KeepB (n₀ Bs:Nat)(W W':World):Prop:=Below n₀ W W'∧∀o:Obj,W.heap[Bs]? =some o→W'.heap[Bs]? =some o
theorem KeepB.refl (n₀ Bs:Nat)(W:World):KeepB n₀ Bs W W:=⟨Below.refl _ _,fun _ h=>h⟩
theorem KeepB.trans {n₀ Bs:Nat}{A B C:World}(h:KeepB n₀ Bs A B)(k:KeepB n₀ Bs B C):KeepB n₀ Bs A C:=⟨h.1.trans k.1,fun o ho=>k.2 o (h.2 o ho)⟩
theorem keepB_b {n₀ Bs:Nat}{w:World}(hn:n₀≤w.heap.size)(hB:Bs<w.heap.size)(W:World)(l:Nat)(o o':Obj)(hl:w.heap.size≤l)(h:W.heap[l]? =some o)(h1:o.isCells=false)(h2:o.isWalk=false):KeepB n₀ Bs W (W.putObj l o'):=
 ⟨belowK_b hn W l o o' hl h h1 h2,fun u hu=>(World.putObj_heap_other (by omega)).trans hu⟩
theorem back1_in (F:Fence)(n:Nat)(hF:F.fn 178)(hro:F.round=none)(hn:1≤n)(l Bs n₀ len cap:Nat)(A:Option Addr)(R:Nat→PatR)(hlen:len≤2147483647)(J Jx:List (KidX R len)→World→Prop)
  (hY:∀pre (x:KidX R len) W,J pre W→pre.length<len→YieldAt F (n-1) Tryz.prog l (kidV x) W fun e W'=>
   (e=.returned (.bool true)∧J (pre++ [x]) W'∧KeepB n₀ Bs W W')∨(e=.returned (.bool false)∧Jx (pre++ [x]) W'))
  (W:World) (hBs:W.heap[Bs]? =some (bx (.slice A len cap) 90)) (hc:∀j,j<len→∃a,A=some a∧a.block<n₀∧Pk W (a.add (j*3)) (R j)) (h0:J [] W):
  CallsIn F n Tryz.prog 178 #[.func (.yield l) #[] #[],.pointer (some ⟨Bs,0,none⟩)] W fun e W'=>(∃v,e=.returned v)∧
   ((∃ys,Downs R len 0 ys∧J ys W')∨(∃pre,True∧Jx pre W')):=by
 refine callsIn_of_wp Tryz.func178 rfl hF ?_ hro
 simp only [Tryz.ntmps178,List.size_toArray,List.length_cons,List.length_nil,Nat.reduceAdd,Nat.reduceSub,Array.replicate_succ,Array.replicate_zero,List.push_toArray,List.append_toArray,List.nil_append,List.cons_append]
 have hBc:=cell_of_one hBs
 gi_wp2
 gi_loopw [3] (fun i wr=>∃(k:Nat) (pre:List (KidX R len)),k≤len∧i=.int .i64 ((k:Int)-1)∧Downs R len k pre∧J pre wr∧KeepB n₀ Bs W wr)
  (fun i _=>(intOf i+1).toNat)
 case atStart=>exact⟨len,[],Nat.le_refl _,rfl,downs_nil R len,h0,KeepB.refl _ _ _⟩
 case round=>
  obtain⟨k,pre,hk,rfl,hd,hJs,hnx⟩:=hrel
  have hBs':wr.cell? ⟨Bs,0,none⟩=some (.slice A len cap):=cell_of_one (hnx.2 _ hBs)
  cases k with
  | zero =>
   gi_wp2
   go_end0
   exact⟨⟨_,rfl⟩,.inl ⟨pre,hd,hJs⟩⟩
  | succ j =>
   have e:((j+1:Nat):Int)-1=j:=by omega
   rw [e]
   have hj:j<len:=hk
   obtain⟨a,rfl,hab,hpk⟩:=hc j hj
   obtain⟨c0,c1,c2⟩:Pk wr (a.add (j*3)) (R j):=⟨by rw [hnx.1.cell (by rw [addr_blk];exact hab)];exact hpk.1,by rw [hnx.1.cell (p:=⟨(a.add (j*3)).block,_,none⟩) (by rw [addr_blk];exact hab)];exact hpk.2.1,by rw [hnx.1.cell (p:=⟨(a.add (j*3)).block,_,none⟩) (by rw [addr_blk];exact hab)];exact hpk.2.2⟩
   have hpl:pre.length<len:=by
    have:=congrArg List.length hd
    simp at this;omega
   obtain⟨fn,tmps,assign,body,hy,hR⟩:=hY pre ⟨(j,R j),hj,rfl⟩ wr hJs hpl
   dsimp only [kidV]at hy
   have HD:=hid (downs_step hd hj)
   clear hd hpk
   gi_wp2
   refine hR.mono ?_
   rintro e W3 (⟨rfl,hJ3,hk3⟩|⟨rfl,hJx3⟩)
   ·gi_wp2
    go_roundw
    case rel=>exact⟨j,_,by omega,by go_num,HD.out,hJ3,hnx.trans hk3⟩
    case measure=>first|(simp [intOf];done)|(simp [intOf];omega)
   ·gi_wp2
    refine bodyPost_ret (results_none rfl _ _ _) rfl ?_
    exact⟨⟨_,rfl⟩,.inr ⟨_,trivial,hJx3⟩⟩
theorem back_in (F:Fence)(n:Nat)(hF:F.fn 158)(hro:F.round=none)(a:Option Addr)(len cap:Nat)(w:World):
  CallsIn F n Tryz.prog 158 #[.slice a len cap] w fun e w'=>e=.returned (.func (.func 178) #[] #[.pointer (some ⟨w.heap.size,0,none⟩)])∧w'=w.alloc (.cells #[.slice a len cap] 90):=by
 refine callsIn_of_wp Tryz.func158 rfl hF ?_ hro
 simp only [Tryz.ntmps158,List.size_toArray,List.length_cons,List.length_nil,Nat.reduceAdd,Nat.reduceSub,Array.replicate_succ,Array.replicate_zero,List.push_toArray,List.append_toArray,List.nil_append,List.cons_append]
 gi_wp2
 go_ret
 exact⟨rfl,rfl⟩
theorem back_stops (F:Fence)(n:Nat)(hF:F.fn 178)(hro:F.round=none)(hn:1≤n)(Bs n₀ len cap:Nat)(A:Option Addr)(R:Nat→PatR)(hlen:len≤2147483647)(w:World)(hn₀:n₀≤w.heap.size)
  (hc:w.heap[Bs]? =some (bx (.slice A len cap) 90)) (hI:∀j,j<len→∃a,A=some a∧a.block<n₀∧Pk w (a.add (j*3)) (R j)):
  SeqStopsK F n Tryz.prog 178 #[.pointer (some ⟨Bs,0,none⟩)] (fun x:KidX R len=>kidV x) (KeepB n₀ Bs) (fun ys=>Downs R len 0 ys) (fun _=>True) len w:=fun l J Jx W hW _ _ hY h0=>by
 have hc':=(hW.block Bs (blk_lt hc)).trans hc
 refine back1_in F n hF hro hn l Bs n₀ len cap A R hlen J Jx hY W hc' (fun j hj=>?_) h0
 obtain⟨a,ha,hb,hp⟩:=hI j hj
 exact⟨a,ha,hb,Pk.below hp hW (by rw [addr_blk];omega)⟩
end
section
open Go.RowKit Go.Shelf Mac
attribute [local go_sem] Oper.semAt_some

section
variable {X:Cx} {K K':Kn} {vr vw:Value} {cs:List Nat} {w w':World} {S:Mc} {D:Nat}
def kidAt {R:Nat→PatR}{p:Pl}(x:KidX R p.t.kids.length):Pat:=p.t.kids[x.1.1]'x.2.1
def SeqI (X:Cx)(K:Kn)(vr vw:Value)(cs:List Nat)(S:Mc)(p:Pl)(R:Nat→PatR)(d:Nat)(w:World)(pre:List (KidX R p.t.kids.length))(W:World):Prop:=
 ∃ K1 nn r, K.le K1 ∧ Rep X K1 vr vw cs W { S with pl := S.pl ++ nn } ∧ Leads (S.pl ++ nn) r (pre.reverse.map kidAt) p.nx ∧ r ≤ (S.pl ++ nn).length ∧ (∀ q, q ∈ nn → q.vis = -1 ∧ q.sh = none ∧ q.e = d ∧ DeepL q.e q.t.kids) ∧ Ord (S.pl ++ nn) ∧
  sumL nw nn=(pre.map fun x=>1+cntL d (kidAt x).kids).sum∧W.heap[w.heap.size+2]? =some (bx (refV X (S.pl++nn) r) tF)∧Free X K1 vr vw (S.pl++nn) (w.heap.size+2)∧W.heap[w.heap.size]? =some (bx (ptr X.m) tM)∧Below w.heap.size w W
variable {p:Pl} {R:Nat→PatR} {d:Nat} {pre:List (KidX R p.t.kids.length)}
theorem SeqI.below {W W':World}(h:SeqI X K vr vw cs S p R d w pre W)(hb:Below W.heap.size W W'):SeqI X K vr vw cs S p R d w pre W':=by
 obtain⟨K1,nn,r,a,b,c,e,f,g,i,j,k,l,m⟩:=h
 exact⟨K1,nn,r,a,b.below hb,c,e,f,g,i,(hb.block _ (blk_lt j)).trans j,k,(hb.block _ (blk_lt l)).trans l,m.trans (hb.mono m.size)⟩
theorem SeqI.turned {W W':World}{row:Option Nat}(h:SeqI X K vr vw cs S p R d w pre W)(hw:X.w0.heap.size≤w.heap.size)(hg:W.grownBy W' row)(hr:∀r,row=some r→w.heap.size≤r∧∃o:Obj,W.heap[r]? =some o∧o.isCells=false):SeqI X K vr vw cs S p R d w pre W':=by
 obtain⟨K1,nn,r,a,b,c,e,f,g,i,j,k,l,m⟩:=h
 have hno:∀b (o:Obj),W.heap[b]? =some o→o.isCells=true→W'.heap[b]? =some o:=fun b o ho hc=>(hg.block b (blk_lt ho) (fun e=>by
  obtain⟨_,o',h1,h2⟩:=hr b e.symm
  rw [ho]at h1;cases h1
  rw [hc]at h2;cases h2)).trans ho
 exact⟨K1,nn,r,a,b.turned hg (fun r hr'=>⟨Nat.le_trans hw (hr r hr').1,(hr r hr').2⟩),c,e,f,g,i,hno _ _ j rfl,k,hno _ _ l rfl,m.grown hg m.size (fun r e=>(hr r e).1)⟩
theorem seqI_step {W:World}(h:SeqI X K vr vw cs S p R d w pre W)(x:KidX R p.t.kids.length)(hrd:RdN patK d X.w0 x.1.2 (kidAt x)∧(kidAt x).x.text.size≤9223372036854775807∧TxFit d (kidAt x).kids)(hdx:DeepL d (kidAt x).kids)(hw:X.w0.heap.size≤w.heap.size):
  ∃ k1 caps1, W.cell? ⟨w.heap.size + 2, 0, none⟩ = some (.func (.func k1) #[] caps1) ∧ Calls Tryz.prog 116 #[ptr X.m, .agg #[.int .i64 x.1.2.op, .string x.1.2.text, x.1.2.kv], .func (.func k1) #[] caps1] W fun e w2 => ∃ b, e = .returned (placeV b) ∧ w2.cell? ⟨w.heap.size + 2, 0, none⟩ = some (.func (.func k1) #[] caps1) ∧ w2.frozen? ⟨w.heap.size + 2, 0, none⟩ = false ∧
   Hid (SeqI X K vr vw cs S p R d w (pre++ [x]) (w2.setCell ⟨w.heap.size+2,0,none⟩ (placeV b))∧Below W.heap.size W w2∧w.heap.size+2<W.heap.size):=by
 obtain⟨K1,nn,r,a,hR,hL,hr,hn,ho,hs,h2,hf,hm,hB⟩:=h
 obtain⟨k1,caps1,e1⟩:=ref_fn X (S.pl++nn) r
 have hc:=cell_of_one h2
 rw [e1]at hc
 refine⟨k1,caps1,hc,?_⟩
 have hbf:=before_any hR (t:=kidAt x) (e:=d) (r:=x.1.2) (nx:=r) hr hrd
 rw [show refV X (({ S with pl:=S.pl++nn }:Mc).pl) r=refV X (S.pl++nn) r from rfl,e1]at hbf
 refine hbf.mono ?_
 rintro e w2 ⟨rfl,K2,hle2,hsm,hR2,hB2⟩
 have hlt2:=blk_lt h2
 have h22:w2.heap[w.heap.size+2]? =some (bx (refV X (S.pl++nn) r) tF):=(hB2.block _ hlt2).trans h2
 have hf2:Free X K2 vr vw ((S.pl++nn)++ [⟨kidAt x,d,x.1.2,r,W.heap.size,-1,none⟩]) (w.heap.size+2):=hf.place (hsm _ hlt2) hlt2
 refine⟨W.heap.size,rfl,by rw [cell_of_one h22,e1],free_of_one h22,hid ⟨⟨K2,nn++ [⟨kidAt x,d,x.1.2,r,W.heap.size,-1,none⟩],(S.pl++nn).length+1,Kn.le_trans a hle2,?_,?_,by rw [←List.append_assoc];simp;omega,fun q hq=>?_,?_,?_,?_,by rw [←List.append_assoc];exact hf2,?_,?_⟩,hB2,hlt2⟩⟩
 ·rw [←List.append_assoc]
  have hw0:X.w0.heap.size≤w.heap.size+2:=by omega
  refine hR2.off (Z:=fun b=>b=w.heap.size+2) ((Below.refl _ _).setCell (p:=⟨w.heap.size+2,0,none⟩) hw0 _) (fun b _ hz=>Below.heap_setCell _ _ _ _ hz) (fun b hz=>by rw [hz];exact hf2)
 ·rw [List.reverse_append,List.reverse_singleton,List.map_append,List.map_singleton,←List.append_assoc]
  exact⟨(S.pl++nn).length,⟨kidAt x,d,x.1.2,r,W.heap.size,-1,none⟩,rfl,by simp,rfl,hL.ext (ext_append _ _)⟩
 ·rcases List.mem_append.1 hq with hq|hq
  ·exact hn q hq
  ·rw [List.mem_singleton.1 hq];exact⟨rfl,rfl,rfl,hdx⟩
 ·rw [←List.append_assoc]
  intro j q hq
  by_cases hj:j<(S.pl++nn).length
  ·rw [List.getElem?_append_left hj]at hq;exact ho j q hq
  ·have hl:=(List.getElem?_eq_some_iff.1 hq).1
   rw [List.length_append,List.length_singleton]at hl
   have e:j=(S.pl++nn).length:=by omega
   subst e
   rw [List.getElem?_append_right (Nat.le_refl _)]at hq
   simp at hq
   subst hq
   exact hr
 ·rw [sumL_app,hs,List.map_append,List.sum_append]
  simp [sumL,nw]
 ·rw [one_setCell h22,←List.append_assoc]
  show some (bx (placeV W.heap.size) tF)=some (bx (placeV (bOf _ (S.pl++nn).length)) tF)
  rw [bOf_eq (p:=⟨kidAt x,d,x.1.2,r,W.heap.size,-1,none⟩) (by simp)]
 ·rw [Below.heap_setCell _ _ _ _ (by show w.heap.size≠w.heap.size+2;omega)]
  exact(hB2.block _ (blk_lt hm)).trans hm
 ·exact(hB.trans (hB2.mono hB.size)).setCell (p:=⟨w.heap.size+2,0,none⟩) (by show w.heap.size≤w.heap.size+2;omega) _
theorem seqI_end {W:World}{i:Nat}{ys:List (KidX R p.t.kids.length)}(hS:Downs R p.t.kids.length 0 ys)(h:SeqI X K vr vw cs S p R d w ys W)(hop:p.t.x.op=2)(he:p.t.kids=[]∨p.e=d+1)(hD:p.e≤D):∃g,W.cell? ⟨w.heap.size+2,0,none⟩=some g∧∀W',(∃row,W.grownBy W' row∧∀r,row=some r→X.w0.heap.size≤r∧∃o:Obj,W.heap[r]? =some o∧o.isCells=false)→Below w.heap.size w W'→VofP X K vr vw cs S D i p w (.returned g) W':=by
 obtain⟨K1,nn,r,a,hR,hL,hr,hn,ho,hs,h2,hf,hm,hB⟩:=h
 have hk:ys.reverse.map kidAt=p.t.kids:=by
  have h1:(ys.reverse.map fun x=>x.1.1)=List.range p.t.kids.length:=by
   have:=congrArg List.reverse hS
   rw [List.map_reverse]
   simpa using this
  have hl:ys.reverse.length=p.t.kids.length:=by have:=congrArg List.length h1;simpa using this
  apply List.ext_getElem
  ·rw [List.length_map];exact hl
  ·intro q hq1 hq2
   rw [List.getElem_map]
   have h3:(ys.reverse[q]'(by rw [hl];exact hq2)).1.1=q:=by
    have h4:=congrArg (fun z=>z[q]?) h1
    simp only [List.getElem?_map,List.getElem?_eq_getElem (show q<ys.reverse.length by rw [hl];exact hq2)]at h4
    rw [List.getElem?_range hq2]at h4
    exact Option.some.inj h4
   unfold kidAt
   congr 1
 rw [hk]at hL
 refine⟨_,cell_of_one h2,fun W' ⟨row,hg,hrow⟩ hB'=>⟨K1,nn,.ways [r],_,rfl,a,hR.turned hg hrow,hB',.inl ⟨r,rfl,rfl⟩,⟨fun c=>by omega,fun _=>⟨r,rfl,hL⟩,fun c=>by omega,fun c=>by omega,fun c=>by omega,fun _ c=>absurd hop c⟩,⟨fun q hq=>?_,ho,?_⟩,fun l e q hq=>by cases e;rw [List.mem_singleton.1 hq];exact hr⟩⟩
 ·obtain⟨h1,h2,h3,h4⟩:=hn q hq
  refine⟨h1,h2,?_,h4⟩
  rcases he with he|he
  ·have hys:ys=[]:=by
    have h9:(ys.reverse.map kidAt).length=0:=by rw [hk,he];rfl
    simpa using h9
   rw [hys]at hs
   have:nn=[]:=by
    cases nn with
    | nil=>rfl
    | cons x l=>simp [sumL,nw]at hs
   rw [this]at hq;cases hq
  ·omega
 ·rw [hs]
  rcases he with he|he
  ·have hys:ys=[]:=by
    have h9:(ys.reverse.map kidAt).length=0:=by rw [hk,he];rfl
    simpa using h9
   rw [hys];exact Nat.zero_le _
  ·rw [he]
   show _≤(p.t.kids.map fun t=>1+cntL d t.kids).sum
   have e:(p.t.kids.map fun t=>1+cntL d t.kids).sum=((ys.reverse.map kidAt).map fun t=>1+cntL d t.kids).sum:=by rw [hk]
   rw [e,List.map_map,List.map_reverse,List.sum_reverse]
   exact Nat.le_refl _
theorem vof_2 {i:Nat}(h:VofI X K vr vw cs S D i p w)(hop:p.t.x.op=2):Calls Tryz.prog 135 #[ptr X.m,.agg #[.int .i64 p.r.op,.string p.r.text,p.r.kv],placeV p.b,refV X S.pl p.nx] w (VofP X K vr vw cs S D i p w):=by
 obtain⟨hR,hp,ho,hD,hd,hfew⟩:=h
 have hpm:=List.mem_of_getElem? hp
 have hnx:=(hR.pk p hpm).2
 obtain⟨⟨⟨hro,hrt⟩,hrd⟩,htx,hfit⟩:=hR.rd p hpm
 obtain⟨A,cap,hkv⟩:=RdL.form (k:=patK) hrd
 have hkv':p.r.kv=.slice A p.t.kids.length cap:=hkv
 have hrd':RdL patK p.e X.w0 (.slice A p.t.kids.length cap) p.t.kids:=by rw [←hkv'];exact hrd
 obtain⟨k1,caps1,e1⟩:=ref_fn X S.pl p.nx
 have hro':p.r.op=p.t.x.op:=hro
 have hrt':p.r.text=p.t.x.text:=hrt
 have hw0:X.w0.heap.size≤w.heap.size:=hR.bel.size
 obtain⟨R,d,hed,hRk⟩:∃(R:Nat→PatR) (d:Nat),(p.t.kids=[]∨p.e=d+1)∧∀j (hj:j<p.t.kids.length),∃a,A=some a∧a.block<X.w0.heap.size∧Pk X.w0 (a.add (j*3)) (R j)∧(∃Ak nk ck,(R j).kv=.slice Ak nk ck)∧(RdN patK d X.w0 (R j) p.t.kids[j]∧p.t.kids[j].x.text.size≤9223372036854775807∧TxFit d p.t.kids[j].kids)∧DeepL d p.t.kids[j].kids:=by
  cases hpe:p.e with
  | zero =>
   rw [hpe]at hd
   have hk:p.t.kids=[]:=hd
   exact⟨fun _=>p.r,0,.inl hk,fun j hj=>by rw [hk]at hj;simp at hj⟩
  | succ d =>
   rw [hpe]at hrd' hfit hd
   have hex:∀j,∃r:PatR,∀hj:j<p.t.kids.length,∃a,A=some a∧a.block<X.w0.heap.size∧Pk X.w0 (a.add (j*3)) r∧(∃Ak nk ck,r.kv=.slice Ak nk ck)∧(RdN patK d X.w0 r p.t.kids[j]∧p.t.kids[j].x.text.size≤9223372036854775807∧TxFit d p.t.kids[j].kids)∧DeepL d p.t.kids[j].kids:=fun j=>by
    by_cases hj:j<p.t.kids.length
    ·obtain⟨a,cap',r,hv,hab,hpk,hrn,ht1,ht2⟩:=kid_at hrd' hfit hj
     cases hv
     obtain⟨Ak,ck,hk2⟩:=hrn.2.form
     exact⟨r,fun _=>⟨a,rfl,by rw [addr_blk]at hab;exact hab,hpk,⟨Ak,_,ck,hk2⟩,⟨hrn,ht1,ht2⟩,hd _ (List.getElem_mem hj)⟩⟩
    ·exact⟨p.r,fun h=>absurd h hj⟩
   exact⟨fun j=>Classical.choose (hex j),d,.inr rfl,fun j hj=>Classical.choose_spec (hex j) hj⟩
 have hB:Below w.heap.size w ((((w.alloc (bx (ptr X.m) tM)).alloc (.cells #[.int .i64 p.t.x.op,.string p.t.x.text,.slice A p.t.kids.length cap] 92)).alloc (bx (.func (.func k1) #[] caps1) tF)).alloc (.cells #[.slice A p.t.kids.length cap] 90)):=below_al (below_al (below_al (below_al (Below.refl _ _) _) _) _) _
 have HI0:Hid (SeqI X K vr vw cs S p R d w [] ((((w.alloc (bx (ptr X.m) tM)).alloc (.cells #[.int .i64 p.t.x.op,.string p.t.x.text,.slice A p.t.kids.length cap] 92)).alloc (bx (.func (.func k1) #[] caps1) tF)).alloc (.cells #[.slice A p.t.kids.length cap] 90))):=hid (by
  refine⟨K,[],p.nx,K.le_refl,by rw [List.append_nil];exact hR.below hB,rfl,by rw [List.append_nil];exact hnx,fun q hq=>(List.not_mem_nil hq).elim,by rw [List.append_nil];exact ho,rfl,?_,by rw [List.append_nil];exact hR.free_new (by omega),?_,hB⟩
  ·rw [List.append_nil,e1,Below.heap_alloc _ _ _ (by simp)];exact alloc_new_at _ _ (by simp)
  ·rw [Below.heap_alloc _ _ _ (by simp;omega),Below.heap_alloc _ _ _ (by simp;omega),Below.heap_alloc _ _ _ (by simp)];exact heap_alloc_new _ _)
 have hbs:((((w.alloc (bx (ptr X.m) tM)).alloc (.cells #[.int .i64 p.t.x.op,.string p.t.x.text,.slice A p.t.kids.length cap] 92)).alloc (bx (.func (.func k1) #[] caps1) tF)).alloc (.cells #[.slice A p.t.kids.length cap] 90)).heap[w.heap.size+1+1+1]? =some (bx (.slice A p.t.kids.length cap) 90):=alloc_new_at _ _ (by simp)
 have HPK:Hid (∀j,j<p.t.kids.length→∃a,A=some a∧a.block<w.heap.size∧Pk ((((w.alloc (bx (ptr X.m) tM)).alloc (.cells #[.int .i64 p.t.x.op,.string p.t.x.text,.slice A p.t.kids.length cap] 92)).alloc (bx (.func (.func k1) #[] caps1) tF)).alloc (.cells #[.slice A p.t.kids.length cap] 90)) (a.add (j*3)) (R j)):=hid fun j hj=>by
  obtain⟨a,h1,h2,h3,_⟩:=hRk j hj
  exact⟨a,h1,by omega,Pk.below (Pk.below h3 hR.bel (by rw [addr_blk];exact h2)) hB (by rw [addr_blk];omega)⟩
 rw [hro',hrt',hkv',e1,hop]
 rw [hop]at HI0 hbs HPK
 refine(callsIn_wide (n:=3)).1 ?_
 refine callsIn_of_wp_marks Tryz.func135 rfl trivial ?_ rfl
 simp only [Tryz.ntmps135,List.size_toArray,List.length_cons,List.length_nil,Nat.reduceAdd,Nat.reduceSub,Array.replicate_succ,Array.replicate_zero,List.push_toArray,List.append_toArray,List.nil_append,List.cons_append]
 have HRK:=hid hRk
 have HED:=hid hed
 have HD:=hid (And.intro hop hD)
 have HFEW:=hid hfew
 have HW0:=hid hw0
 clear hR hp ho hD hd hfew hpm hnx hro hrt hrd htx hfit hkv hkv' hrd' e1 hro' hrt' hw0 hRk hed hB
 gi_wp2_with fail
 refine⟨trivial,(back_in Fence.wide _ trivial rfl _ _ _ _).mono ?_⟩
 rintro e w' ⟨rfl,rfl⟩
 gi_wp2
 obtain⟨W0,hW0⟩:∃W0,W0=((((w.alloc (bx (ptr X.m) tM)).alloc (.cells #[.int .i64 2,.string p.t.x.text,.slice A p.t.kids.length cap] 92)).alloc (bx (.func (.func k1) #[] caps1) tF)).alloc (.cells #[.slice A p.t.kids.length cap] 90)):=⟨_,rfl⟩
 have hz0:W0.heap.size=w.heap.size+4:=by rw [hW0];simp
 rw [←hW0]at HI0 hbs HPK ⊢
 clear hW0
 refine wpIn_rangeFunc_ownH (n:=3) rfl (by omega) (gf:=178) (lb:=#[.pointer (some ⟨w.heap.size+1+1+1,0,none⟩)]) rfl trivial (enters_of Tryz.func178 (by kernel_rfl) rfl)
  (back_stops Fence.wide _ trivial rfl (by omega) (w.heap.size+1+1+1) w.heap.size p.t.kids.length cap A R HFEW.out W0 (by omega) hbs HPK.out)
  (fun h k=>KeepB.trans h k) (keepB_b (by omega) (by omega)) (Below.refl _ _) (fun _=>rfl)
  (SeqI X K vr vw cs S p R d w) (fun _ _ _=>False)
  (fun s W W' row hs hg hr=>hs.turned HW0.out hg (fun r e=>⟨by have:=(hr r e).1;omega,(hr r e).2⟩))
  (fun _ _ _ _ _ hs _ _=>hs) HI0.out
  (fun x a' W=>∃Bx,W.heap[Bx]? =some (.cells #[.int .i64 x.1.2.op,.string x.1.2.text,x.1.2.kv] 92 (0,0))∧a'={ tmps:=#[ptr X.m,.agg #[.int .i64 2,.string p.t.x.text,.slice A p.t.kids.length cap],placeV p.b,.func (.func k1) #[] caps1,.pointer (some ⟨w.heap.size,0,none⟩),.pointer (some ⟨w.heap.size+1,0,none⟩),undef,.pointer (some ⟨w.heap.size+1+1,0,none⟩),.nilFunc,undef,.pointer (some ⟨Bx,0,none⟩),.pointer (some ⟨w.heap.size+1,0,none⟩),.int .i64 2,.bool false,.bool false,undef,undef,undef,undef,undef,.bool true,.bool true,.pointer (some ⟨w.heap.size+1,2,none⟩),.slice A p.t.kids.length cap,.func (.func 178) #[] #[.pointer (some ⟨w.heap.size+1+1+1,0,none⟩)],.int .i64 (x.1.1:Int),.agg #[.int .i64 x.1.2.op,.string x.1.2.text,x.1.2.kv],undef,undef,undef,undef,undef,undef,undef,undef,undef,undef,undef,undef,undef,undef,undef,undef,undef,undef,undef,undef,undef,undef,undef,undef,undef,undef,undef,undef],defers:=[] })
  (fun x a' _ W W' row hs hg hr=>by
   obtain⟨Bx,h1,h2⟩:=hs
   refine⟨Bx,(hg.block _ (blk_lt h1) (fun e=>?_)).trans h1,h2⟩
   obtain⟨_,o,h3,h4⟩:=hr Bx e.symm
   rw [h1]at h3;cases h3;cases h4) ?assign ?body ?done ?stop
 case assign=>
  intro l pre x W Kc hI hKc
  obtain⟨a0,hA0,_,_,⟨Ak,nk,ck,hkv⟩,_⟩:=HRK.out x.1.1 x.2.1
  clear hA0
  have hkv':x.1.2.kv=.slice Ak nk ck:=by rw [x.2.2];exact hkv
  have HK2:=hid hKc
  have HI:=hid hI
  have HX:=hid hkv'
  simp only [kidV,hkv']
  clear hKc hI hkv
  gi_wp2
  refine HK2.out _ _ ((KeepsOthers.alloc W _).from _) ⟨(Below.refl _ _).alloc ?_ _,fun o ho=>(Below.heap_alloc _ _ _ (blk_lt ho)).trans ho⟩ (HI.out.below (below_al (Below.refl _ _) _)) ⟨W.heap.size,?_,?_⟩
  ·obtain⟨_,_,_,_,_,_,_,_,_,_,_,_,_,hB⟩:=HI.out
   exact hB.size
  ·rw [HX.out];exact heap_alloc_new W _
  ·rw [HX.out]
 case body=>
  rintro l pre x _ W hl ⟨rr,hrr⟩ hI ⟨Bx,hbx,rfl⟩ hlt
  obtain⟨a0,hA0,_,_,_,hrd,hdx⟩:=HRK.out x.1.1 x.2.1
  clear hA0
  obtain⟨k2,caps2,hc,hcall⟩:=seqI_step hI x (by rw [x.2.2];exact hrd) hdx HW0.out
  have hm:W.cell? ⟨w.heap.size,0,none⟩=some (ptr X.m):=by obtain⟨_,_,_,_,_,_,_,_,_,_,_,_,h9,_⟩:=hI;exact cell_of_one h9
  have b0:W.cell? ⟨Bx,0,none⟩=some (.int .i64 x.1.2.op):=by rw [cell_of_row _ Bx 0 _ _ _ hbx];rfl
  have b1:W.cell? ⟨Bx,1,none⟩=some (.string x.1.2.text):=by rw [cell_of_row _ Bx 1 _ _ _ hbx];rfl
  have b2:W.cell? ⟨Bx,2,none⟩=some x.1.2.kv:=by rw [cell_of_row _ Bx 2 _ _ _ hbx];rfl
  have HCALL:=hid hcall
  have hWn:w.heap.size≤W.heap.size:=by obtain⟨_,_,_,_,_,_,_,_,_,_,_,_,_,h9⟩:=hI;exact h9.size
  clear hcall hI hbx hrd hdx hrr
  gi_wp2_with fail
  refine⟨trivial,(CallsIn.inRound l (callsIn_wide.2 HCALL.out)).mono ?_⟩
  rintro e w2 ⟨b,rfl,hc2,hf2,HS⟩
  gi_wp2
  obtain⟨hs1,hs2,hs3⟩:=HS.out
  refine⟨⟨by simpa using hs2.size,fun k o hB hk _=>(Below.heap_setCell _ _ _ _ (by show k≠w.heap.size+2;omega)).trans ((hs2.block _ (blk_lt hk)).trans hk)⟩,⟨(hs2.mono hWn).setCell (p:=⟨w.heap.size+2,0,none⟩) (by show w.heap.size≤w.heap.size+2;omega) _,fun o ho=>(Below.heap_setCell _ _ _ _ (by show w.heap.size+1+1+1≠w.heap.size+2;omega)).trans ((hs2.block _ (blk_lt ho)).trans ho)⟩,hs1⟩
 case done=>
  rintro Dd ys W hDd hS hI hK
  obtain⟨g,hc,hfin⟩:=seqI_end (i:=i) hS hI HD.out.1 HED.out HD.out.2
  have hBW:Below w.heap.size w W:=by obtain⟨_,_,_,_,_,_,_,_,_,_,_,_,_,h9⟩:=hI;exact h9
  have HFIN:=hid hfin
  clear hfin hI
  gi_wp2
  refine⟨by simp,.inl ⟨_,_,rfl,run_takeDeferred hK,?_⟩⟩
  refine⟨_,results_tmp rfl _ _ _,?_⟩
  exact(HFIN.out _ ⟨some Dd,grownBy_putObj' W Dd _,fun r e=>by cases e;exact⟨by have:=HW0.out;omega,_,hK,rfl⟩⟩ (hBW.trans (belowK_b (w:=W0) (by omega) W Dd _ _ hDd hK rfl rfl)))
 case stop=>
  rintro D c pre W _ _ h _
  exact h.elim
end
end
section
open Go.RowKit Mac

section
variable {X:Cx} {K K':Kn} {vr vw:Value} {cs:List Nat} {w w':World} {S:Mc} {D N:Nat} {s:ByteArray} {T:Pat} {H:Nat→Nat→Prop} {Wq:List Nat} {i:Nat} {p:Pl}
theorem equalIn_func_nil (d:Nat)(fn:Fn)(a b:Array Value)(w:World):(Op.equalIn (d+1) tF (.func fn a b) .nilFunc).run Tryz.prog w=.ok false w:=by
 simp [Op.equalIn,run_underlying Tryz.underlying1]
theorem equalIn_nil_nil (d:Nat)(w:World):(Op.equalIn (d+1) tF .nilFunc .nilFunc).run Tryz.prog w=.ok true w:=by
 simp [Op.equalIn,run_underlying Tryz.underlying1]
theorem eql_func_nil (fn:Fn)(a b:Array Value)(w:World):(binOp .eql tF (.func fn a b) .nilFunc).run Tryz.prog w=.ok (.bool false) w:=by
 have h:(Op.equal tF (.func fn a b) .nilFunc).run Tryz.prog w=.ok false w:=equalIn_func_nil 9999 fn a b w
 simp only [binOp]
 simp [h]
theorem eql_nil_nil (w:World):(binOp .eql tF .nilFunc .nilFunc).run Tryz.prog w=.ok (.bool true) w:=by
 have h:(Op.equal tF .nilFunc .nilFunc).run Tryz.prog w=.ok true w:=equalIn_nil_nil 9999 w
 simp only [binOp]
 simp [h]
theorem vof_other (h:VofI X K vr vw cs S D i p w)(h1:p.t.x.op≠1)(h2:p.t.x.op≠2)(h3:p.t.x.op≠3)(h4:p.t.x.op≠4)(h5:p.t.x.op≠5):Calls Tryz.prog 135 #[ptr X.m,.agg #[.int .i64 p.r.op,.string p.r.text,p.r.kv],placeV p.b,refV X S.pl p.nx] w (VofP X K vr vw cs S D i p w):=by
 obtain⟨hR,hp,ho,hD,hd,hfew⟩:=h
 have hpm:=List.mem_of_getElem? hp
 obtain⟨⟨⟨hro,hrt⟩,hrd⟩,htx,hfit⟩:=hR.rd p hpm
 obtain⟨A,cap,hkv⟩:=RdL.form (k:=patK) hrd
 have hkv':p.r.kv=.slice A p.t.kids.length cap:=hkv
 obtain⟨k1,caps1,e1⟩:=ref_fn X S.pl p.nx
 have hro':p.r.op=p.t.x.op:=hro
 have hrt':p.r.text=p.t.x.text:=hrt
 obtain⟨n,hn⟩:∃n,n=p.t.kids.length:=⟨_,rfl⟩
 obtain⟨o,hop⟩:∃o,o=p.t.x.op:=⟨_,rfl⟩
 obtain⟨tx,htx'⟩:∃tx,tx=p.t.x.text:=⟨_,rfl⟩
 have hB:Below w.heap.size w (((w.alloc (bx (ptr X.m) tM)).alloc (.cells #[.int .i64 o,.string tx,.slice A n cap] 92)).alloc (bx (.func (.func k1) #[] caps1) tF)):=below_al (below_al (below_al (Below.refl _ _) _) _) _
 have HF:Hid (VofP X K vr vw cs S D i p w (.returned noneV) (((w.alloc (bx (ptr X.m) tM)).alloc (.cells #[.int .i64 o,.string tx,.slice A n cap] 92)).alloc (bx (.func (.func k1) #[] caps1) tF))):=Lib.hid
  ⟨K,[],.ways [],noneV,rfl,K.le_refl,by rw [List.append_nil];exact hR.below hB,hB,.inr (.inr (.inr ⟨rfl,rfl⟩)),⟨fun c=>absurd c h1,fun c=>absurd c h2,fun c=>absurd c h3,fun c=>absurd c h4,fun c=>absurd c h5,fun _ _ _ _ _=>rfl⟩,news_nil ho,fun l e r hr=>by cases e;cases hr⟩
 rw [hro',hrt',hkv',e1,←hn,←hop,←htx']
 have g1:(o==1)=false:=by rw [hop];simpa using h1
 have g2:(o==2)=false:=by rw [hop];simpa using h2
 have g3:(o==3)=false:=by rw [hop];simpa using h3
 have g4:(o==4)=false:=by rw [hop];simpa using h4
 have g5:(o==5)=false:=by rw [hop];simpa using h5
 clear hR hp ho hD hd hfew hpm hro hrt hrd htx hfit hkv hkv' e1 hro' hrt' hn hop htx' hB h1 h2 h3 h4 h5
 go_enter Tryz.func135,Tryz.ntmps135
 go_wp2
 go_ret
 exact HF.out
theorem vof_all (h:VofI X K vr vw cs S D i p w):Calls Tryz.prog 135 #[ptr X.m,.agg #[.int .i64 p.r.op,.string p.r.text,p.r.kv],placeV p.b,refV X S.pl p.nx] w (VofP X K vr vw cs S D i p w):=by
 rcases op_cases p.t.x.op with h1|h1|h1|h1|h1|⟨h1,h2,h3,h4,h5⟩
 ·exact vof_1 h h1
 ·exact vof_2 h h1
 ·exact vof_3 h h1
 ·exact vof_4 h h1
 ·exact vof_5 h h1
 ·exact vof_other h h1 h2 h3 h4 h5
theorem call_sh (S:Mc)(r:Nat)(hr:r≤S.pl.length)(hv:∀(i:Nat) (p:Pl),S.pl[i]? =some p→p.vis≤S.pos){i:Nat}{p:Pl}(hp:S.pl[i]? =some p):∃p',(call S r).pl[i]? =some p'∧p'.sh=p.sh:=by
 rcases call_spec S r hr hv with ⟨_,h2⟩|⟨rfl,h2⟩|⟨j,q,rfl,hq,_,h2⟩
 ·rw [h2];exact⟨p,hp,rfl⟩
 ·rw [h2];exact⟨p,hp,rfl⟩
 ·rw [h2]
  by_cases e:j=i
  ·subst e
   rw [hq]at hp;cases hp
   exact⟨{ p with vis:=S.pos },by show(S.pl.set j _)[j]? =_;rw [List.getElem?_set_self (List.getElem?_eq_some_iff.1 hq).1],rfl⟩
  ·exact⟨p,by show(S.pl.set j _)[i]? =_;rw [List.getElem?_set_ne e];exact hp,rfl⟩
theorem calls_sh:∀(l:List Nat) (S:Mc),(∀r,r∈l→r≤S.pl.length)→(∀(i:Nat) (p:Pl),S.pl[i]? =some p→p.vis≤S.pos)→∀ {i:Nat} {p:Pl},S.pl[i]? =some p→∃p',(l.foldl call S).pl[i]? =some p'∧p'.sh=p.sh
 | [],S,_,_,_,p,hp=>⟨p,hp,rfl⟩
 | r :: l, S, hl, hv, _, p, hp => by
  obtain⟨a1,a2,_,_,a5,_⟩:=call_len S r (hl r (by simp)) hv
  obtain⟨p1,h1,h2⟩:=call_sh S r (hl r (by simp)) hv hp
  obtain⟨p2,h3,h4⟩:=calls_sh l (call S r) (fun q hq=>by rw [a1];exact hl q (by simp [hq])) (by rw [a2];exact a5) h1
  exact⟨p2,h3,h4.trans h2⟩
structure Vst (S S':Mc):Prop where
 ext:Ext S.pl S'.pl
 pos:S'.pos=S.pos
 kept:∀r,Called S r→Called S' r
 mu:mu S'≤mu S
theorem stp_vst {S S':Mc}(h:Stp S S'):Vst S S':=⟨h.ext,h.pos,h.kept,h.mu⟩
theorem Vst.trans {S S' S'':Mc}(h:Vst S S')(h':Vst S' S''):Vst S S'':=⟨h.ext.trans h'.ext,h'.pos.trans h.pos,fun r hr=>h'.kept r (h.kept r hr),Nat.le_trans h'.mu h.mu⟩
theorem vis_fin (I:Inv s D N T H (some i) Wq S)(hp:S.pl[i]? =some p){sh:Vs}(hs:p.sh=some sh)(hc:Called S (i+1)):
  Inv s D N T H none Wq (afterV S i sh)∧Vst S (afterV S i sh):=by
 have hsh:=I.shp i p sh hp hs
 cases sh with
 | wait =>
  have ho:p.t.x.op=1:=by
   rcases op_cases p.t.x.op with h|h|h|h|h|⟨h1,h2,h3,h4,h5⟩
   ·exact h
   ·obtain⟨r,e,_⟩:=hsh.2.1 h;cases e
   ·obtain⟨l,e,_⟩:=hsh.2.2.1 h;cases e
   ·have:=hsh.2.2.2.1 h;unfold Tries at this;split at this
    ·obtain⟨r,e,_⟩:=this;cases e
    ·cases this
   ·have:=hsh.2.2.2.2.1 h;unfold Tries at this;split at this
    ·obtain⟨r,e,_⟩:=this;cases e
    ·cases this
   ·have:=hsh.2.2.2.2.2 h1 h2 h3 h4 h5;cases this
  exact⟨inv_wait I hp hs ho hc,⟨Ext.refl _,rfl,fun r hr=>by cases r<;>exact hr,Nat.le_refl _⟩⟩
 | ways l =>
  have hg:=ways_good I hp hsh hc
  obtain⟨I2,hca,st⟩:=inv_calls I hg
  obtain⟨p2,h1,h2⟩:=calls_sh l S (fun r hr=>(hg r hr).1) (fun i p hp=>(I.vle i p hp).2) hp
  exact⟨inv_ways I2 h1 (h2.trans hs) hca,stp_vst st⟩
def VstP (X:Cx)(s:ByteArray)(D N:Nat)(T:Pat)(H:Nat→Nat→Prop)(Wq:List Nat)(S:Mc)(e:Ending)(w':World):Prop:=e=.returned (.tuple #[])∧∃K' vr' vw' cs' S',Rep X K' vr' vw' cs' w' S'∧Inv s D N T H none Wq S'∧Vst S S'
theorem inv_bounds (I:Inv s D N T H (some i) Wq S)(hN:N≤2147483647):S.reached.length+unv S+1≤2147483648∧S.waiting.length+1≤2147483648:=by
 have h1:=I.cnt
 have h2:=I.tot
 simp at h1
 omega
theorem sumL_mem {f:Pl→Nat}:∀ {l:List Pl} {p:Pl},p∈l→f p≤sumL f l
 | [],_,h=>by cases h
 | x :: l, p, h => by
  simp only [sumL,List.map_cons,List.sum_cons]
  rcases List.mem_cons.1 h with rfl|h
  ·omega
  ·have:=sumL_mem (f:=f) h
   unfold sumL at this;omega
theorem len_cnt (d:Nat):∀l:List Pat,l.length≤cntL (d+1) l
 | []=>Nat.zero_le _
 | x :: l => by
  have ih:=len_cnt d l
  simp only [cntL,List.map_cons,List.sum_cons,List.length_cons]at ih ⊢
  omega
theorem few_kids {X':Option Nat}(I:Inv s D N T H X' Wq S)(hp:S.pl[i]? =some p)(hs:p.sh=none):p.t.kids.length≤N:=by
 have h1:=sumL_mem (f:=rw') (List.mem_of_getElem? hp)
 have h2:=I.tot
 have h3:rw' p=cntL p.e p.t.kids:=by unfold rw';rw [hs];rfl
 have hd:=(I.deep i p hp).2
 cases he:p.e with
 | zero=>rw [he]at hd;rw [show p.t.kids=[]from hd];exact Nat.zero_le _
 | succ d=>have:=len_cnt d p.t.kids;rw [he]at h3;omega
theorem visit_any (h:Rep X K vr vw cs w S)(I:Inv s D N T H (some i) Wq S)(hp:S.pl[i]? =some p)(hc:Called S (i+1))(hN:N≤2147483647):
  Calls Tryz.prog 134 #[ptr (p.b+4),ptr p.b,ptr (p.b+1),ptr (p.b+3),ptr (p.b+2)] w (VstP X s D N T H Wq S):=by
 have hpm:=List.mem_of_getElem? hp
 obtain⟨g,hg,hg0,hg1⟩:=h.hg p hpm
 have hv:=fun(i:Nat) (p:Pl) hp=>(I.vle i p hp).2
 cases hs:p.sh with
 | some sh =>
  obtain⟨hk,hl⟩:=hg1 sh hs
  obtain⟨f,caps,rfl,hen,hcall⟩:=vis_any h hp hk hl hv (inv_bounds I hN).1 (inv_bounds I hN).2
  have c4:=cell_of_one hg
  have HC:=hid hcall
  have HF:Hid (∀w',VisP X K S i sh (.returned (.tuple #[])) w'→VstP X s D N T H Wq S (.returned (.tuple #[])) w'):=hid fun w' ⟨_,vr',vw',cs',hR⟩=>⟨rfl,K,vr',vw',cs',_,hR,(vis_fin I hp hs hc).1,(vis_fin I hp hs hc).2⟩
  have hbo:=eql_func_nil (.func f) #[] caps
  clear h I hp hc hpm hg hg0 hg1 hv hk hl hcall hs
  go_enter Tryz.func134,Tryz.ntmps134
  go_wp2_with fail
  refine HC.out.mono ?_
  rintro e w2 ⟨rfl,hV⟩
  have HV:=hid (HF.out w2 ⟨rfl,hV⟩)
  clear hV
  go_wp2
  go_end0
  exact HV.out
 | none =>
  have hgn:=hg0 hs
  subst hgn
  have c4:=cell_of_one hg
  have f4:=free_of_one hg
  obtain⟨hk,hnx⟩:=h.pk p hpm
  have c0:=cell_of_one (h.hk _ _ hk.k0)
  have q0:w.cell? ⟨p.b+1,0,none⟩=some (.int .i64 p.r.op):=by rw [cell_of_row _ (p.b+1) 0 _ _ _ (h.hk _ _ hk.k1)];rfl
  have q1:w.cell? ⟨p.b+1,1,none⟩=some (.string p.r.text):=by rw [cell_of_row _ (p.b+1) 1 _ _ _ (h.hk _ _ hk.k1)];rfl
  have q2:w.cell? ⟨p.b+1,2,none⟩=some p.r.kv:=by rw [cell_of_row _ (p.b+1) 2 _ _ _ (h.hk _ _ hk.k1)];rfl
  have c3:=cell_of_one (h.hk _ _ hk.k3)
  have c2:=cell_of_one (h.hk _ _ hk.k2)
  obtain⟨k1,caps1,e1⟩:=ref_fn X S.pl p.nx
  have hvof:=vof_all (D:=D) (i:=i) (p:=p) ⟨h,hp,I.ord,(I.deep i p hp).1,(I.deep i p hp).2,Nat.le_trans (few_kids I hp hs) hN⟩
  rw [e1]at c2 hvof
  have HVOF:=hid hvof
  have hil:=(List.getElem?_eq_some_iff.1 hp).1
  have HNEXT:Hid (∀(e:Ending) w1,VofP X K vr vw cs S D i p w e w1→∃f caps,e=.returned (.func (.func f) #[] caps)∧(∀w,(callFunc f caps).run Tryz.prog w=.ok (.enter f caps) w)∧w1.cell? ⟨p.b+4,0,none⟩=some .nilFunc∧w1.frozen? ⟨p.b+4,0,none⟩=false∧Calls Tryz.prog f caps (w1.setCell ⟨p.b+4,0,none⟩ (.func (.func f) #[] caps)) (VstP X s D N T H Wq S)):=hid fun e w1 ⟨K',nn,sh,g,he,hle,hR,hB,hvk,hsh,hnews,hl⟩=>by
   have hp1:(S.pl++nn)[i]? =some p:=by rw [List.getElem?_append_left hil];exact hp
   obtain⟨I2,hext,hkept,hmu⟩:=inv_made I hp hs hnews hsh
   have hR2:=hR.setSh hp1 hvk hl
   have hsame:Same (S.pl++nn) ((S.pl++nn).set i { p with sh:=some sh }):=same_set hp1 rfl
   have hnx1:p.nx≤(S.pl++nn).length:=by rw [List.length_append];omega
   have hvk2:VsK X K' ((S.pl++nn).set i { p with sh:=some sh }) { p with sh:=some sh } g sh:=hvk.same hsame hnx1 hl rfl rfl
   have hl2:∀l,sh=.ways l→∀r,r∈l→r≤((S.pl++nn).set i { p with sh:=some sh }).length:=fun l e r hr=>by rw [List.length_set];exact hl l e r hr
   have hp2:((S.pl++nn).set i { p with sh:=some sh })[i]? =some { p with sh:=some sh }:=List.getElem?_set_self (by rw [List.length_append];omega)
   obtain⟨f,caps,rfl,hen,hcall⟩:=vis_any hR2 (i:=i) (p:={ p with sh:=some sh }) hp2 hvk2 hl2 (fun i p hp=>(I2.vle i p hp).2) (inv_bounds I2 hN).1 (inv_bounds I2 hN).2
   have h4:w1.heap[p.b+4]? =some (bx .nilFunc tF):=(hB.block _ (blk_lt hg)).trans hg
   refine⟨f,caps,he,hen,cell_of_one h4,free_of_one h4,hcall.mono ?_⟩
   rintro e2 w2 ⟨rfl,vr',vw',cs',hR3⟩
   have hfin:=vis_fin I2 hp2 rfl (hkept _ hc)
   have hv0:Vst S { S with pl:=(S.pl++nn).set i { p with sh:=some sh } }:=⟨hext,rfl,hkept,hmu⟩
   exact⟨rfl,K',vr',vw',cs',_,hR3,hfin.1,hv0.trans hfin.2⟩
  have hbo:=eql_nil_nil
  clear h I hp hc hpm hg hg0 hg1 hv hk hnx hvof hs hil e1
  go_enter Tryz.func134,Tryz.ntmps134
  go_wp2_with fail
  refine HVOF.out.mono ?_
  rintro e w1 hV
  obtain⟨f,caps,rfl,hen,d4,z4,hcall⟩:=HNEXT.out e w1 hV
  have HC:=hid hcall
  clear hV hcall HVOF HNEXT c4 f4 c0 q0 q1 q2 c3 c2
  go_wp2_with fail
  refine HC.out.mono ?_
  rintro e w2 ⟨rfl,hV⟩
  have HV:Hid (VstP X s D N T H Wq S (.returned (.tuple #[])) w2):=hid ⟨rfl,hV⟩
  clear hV
  go_wp2
  go_end0
  exact HV.out
end
end
section
open Go.RowKit Mac

section
variable {X:Cx} {K K':Kn} {vr vw:Value} {cs:List Nat} {w w':World} {S:Mc} {D N:Nat} {s:ByteArray} {T:Pat} {H:Nat→Nat→Prop} {Wq:List Nat} {i:Nat} {p:Pl}
theorem flat_one (l:List Value):(l.flatMap fun u=>[u])=l:=by induction l with
 | nil=>rfl
 | cons x l ih=>rw [List.flatMap_cons,ih];rfl
theorem rowV_last {E B g n cap:Nat}{l:List Value}{x:Value}(h:RowV E B w (.slice (some ⟨g,0,none⟩) n cap) (l++ [x])):n=l.length+1∧l.length+1≤cap∧w.cell? ⟨g,l.length,none⟩=some x∧RowV E B w (.slice (some ⟨g,0,none⟩) l.length cap) l:=by
 have hn:=RowR.cap' h
 have hc:=RowR.cap h
 have hcell:=RowR.cell (enc:=fun u:Value=>[u]) (z:=1) (fun _=>rfl) h (i:=l.length) (by simp) (j:=0) (x:=x) (by simp)
 rw [List.length_append,List.length_singleton]at hn
 refine⟨hn,by omega,by simpa using hcell,?_⟩
 rcases h.2 with ⟨h0,_⟩|⟨g',cap',cur,hv,hB,hg,h3,h4,h5,h6⟩
 ·cases h0
 ·cases hv
  refine⟨by simp [flat_one],.inr ⟨g,cap,cur,rfl,hB,hg,by omega,h4,h5,?_⟩⟩
  rw [flat_one]at h6 ⊢
  have:=congrArg (List.take l.length) h6
  rw [List.take_take,List.take_left]at this
  have e:∀m,l.length≤m→min l.length m=l.length*1:=fun m hm=>by omega
  rw [e _ (by simp)]at this
  exact this
def RchP (X:Cx)(s:ByteArray)(D N:Nat)(T:Pat)(H:Nat→Nat→Prop)(Wq:List Nat)(S:Mc)(e:Ending)(w':World):Prop:=e=.returned (.tuple #[])∧∃K' vr' vw' cs' S',Rep X K' vr' vw' cs' w' S'∧Inv s D N T H none Wq S'∧Vst S S'∧S'.reached=[]
def RchI (X:Cx)(s:ByteArray)(D N:Nat)(T:Pat)(H:Nat→Nat→Prop)(Wq:List Nat)(S:Mc)(G:Nat)(w':World):Prop:=∃K' vr' vw' cs' S',Rep X K' vr' vw' cs' w' S'∧Inv s D N T H none Wq S'∧Vst S S'∧mu S'=G
theorem reach_any (h:Rep X K vr vw cs w S)(I:Inv s D N T H none Wq S)(hN:N≤2147483647):
  Calls Tryz.prog 136 #[ptr X.m] w (RchP X s D N T H Wq S):=by
 have H0:Hid (RchI X s D N T H Wq S (mu S) w):=hid ⟨K,vr,vw,cs,S,h,I,⟨Ext.refl _,rfl,fun _ h=>h,Nat.le_refl _⟩,rfl⟩
 obtain⟨G0,hG0⟩:∃G0,G0=mu S:=⟨_,rfl⟩
 rw [←hG0]at H0
 have HR:Hid (∀G wr,RchI X s D N T H Wq S G wr→(∃m2,wr.cell? ⟨X.m,1,none⟩=some m2∧wr.frozen? ⟨X.m,1,none⟩=false∧((∃c:Nat,(m2=.slice none 0 0∨∃g,m2=.slice (some ⟨g,0,none⟩) 0 c))∧RchP X s D N T H Wq S (.returned (.tuple #[])) wr∨
   ∃g n c b,m2=.slice (some ⟨g,0,none⟩) (n+1) c∧n+1≤c∧n≤2147483648∧wr.cell? ⟨g,n,none⟩=some (visitV b)∧Calls Tryz.prog 134 #[ptr (b+4),ptr b,ptr (b+1),ptr (b+3),ptr (b+2)] (wr.setCell ⟨X.m,1,none⟩ (.slice (some ⟨g,0,none⟩) n c)) fun e w2=>e=.returned (.tuple #[])∧∃G',G'<G∧Hid (RchI X s D N T H Wq S G' w2)))):=hid fun G wr ⟨K',vr',vw',cs',S',hR,hI,hV,hG⟩=>by
  obtain⟨⟨_,m1,_⟩,fm⟩:=hR.cells
  refine⟨vr',m1,fm 1,?_⟩
  by_cases hne:S'.reached=[]
  ·refine .inl ⟨?_,rfl,K',vr',vw',cs',S',hR,hI,hV,hne⟩
   have hrr:=hR.rr
   rw [hne]at hrr
   rcases RowR.form hrr with ⟨h1,_⟩|⟨g,c,h1,_⟩
   ·exact⟨0,.inl h1⟩
   ·exact⟨c,.inr ⟨g,h1⟩⟩
  ·obtain⟨R,i,hri⟩:∃R i,S'.reached=R++ [i]:=⟨S'.reached.dropLast,S'.reached.getLast hne,(List.dropLast_concat_getLast hne).symm⟩
   have hrr:=hR.rr
   rw [hri,List.map_append,List.map_singleton]at hrr
   rcases RowR.form hrr with ⟨_,h1⟩|⟨g,c,h1,hgB,hgl⟩
   ·simp at h1
   ·rw [h1]at hrr
    obtain⟨g1,g2,g3,g4⟩:=rowV_last hrr
    rw [List.length_map]at g1 g2 g3 g4
    obtain⟨I2,hc2,hmu⟩:=inv_pop hI hri
    obtain⟨p,hp,_⟩:=hc2
    have hb:bOf S'.pl i=p.b:=bOf_eq hp
    rw [hb]at g3
    have hlen:R.length≤2147483648:=by
     have h2:=hI.cnt;have h3:=hI.tot
     rw [hri]at h2
     simp at h2;omega
    have hR2:=hR.setReached (w1:=wr) (v':=.slice (some ⟨g,0,none⟩) R.length c) (R:=R) (World.grownBy.refl _ _) g4 (fun g' e=>.inl (by rw [h1];exact e)) (fun j hj=>hR.rl j (by rw [hri];exact List.mem_append_left _ hj))
    refine .inr ⟨g,R.length,c,p.b,by rw [h1];simp,g2,hlen,g3,(visit_any hR2 I2 (i:=i) hp ⟨p,hp,by assumption⟩ hN).mono ?_⟩
    rintro e w2 ⟨rfl,K2,vr2,vw2,cs2,S2,hR3,hI3,hV3⟩
    refine⟨rfl,mu S2,?_,hid ⟨K2,vr2,vw2,cs2,S2,hR3,hI3,?_,rfl⟩⟩
    ·have:=hV3.mu;omega
    ·have hv0:Vst S' { S' with reached:=R }:=⟨Ext.refl _,rfl,fun r hr=>by cases r<;>exact hr,by omega⟩
     exact(hV.trans hv0).trans hV3
 clear h I hG0
 go_enter Tryz.func136,Tryz.ntmps136
 go_wp2
 go_loopg [] G0 (fun G wr=>Hid (RchI X s D N T H Wq S G wr))
 case atStart=>exact H0
 case round=>
  clear H0
  obtain⟨m2,hm,hf,⟨⟨c,hm2⟩,hP⟩|⟨g,n,c,b,rfl,hc,hn,hcell,hcall⟩⟩:=HR.out _ _ hrel.out
  ·have HP:=hid hP
   clear hP hrel HR
   rcases hm2 with rfl|⟨g,rfl⟩
   all_goals
    go_wp2
    go_end0
    exact HP.out
  ·have HC:=hid hcall
   clear hcall hrel HR
   go_wp2_with fail
   refine HC.out.mono ?_
   rintro e w2 ⟨rfl,G',hG',HI⟩
   clear HC hm hf hcell
   go_wp2
   go_roundg G'
   case rel=>exact HI
   case measure=>exact hG'
end
end
end Go.Proofs.YtecladbckadijaaGreatDoor
