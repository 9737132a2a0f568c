/- MERGED for a claim. -/
import Derived.Test.YtecladbckadijaaGreatDoorTyS
import Derived.ProofKit
import Derived.OpenShut
set_option linter.unusedVariables false
set_option linter.unusedSimpArgs false
set_option maxRecDepth 100000
set_option maxHeartbeats 16000000
namespace Go.Proofs.YtecladbckadijaaGreatDoor
open Go.Lib (hid)
section
open Go.RowKit NumP

def zeroTy:Ty:=⟨0,[],[],⟨#[]⟩,⟨#[]⟩⟩
def PtV (B:Nat)(o:Option Ty)(e:Ending)(w':World):Prop:=match o with
 | some t=>∃v:TyV,e=.returned (.tuple #[v.val,.bool true])∧OwnTy B w' v t
 | none=>∃v:TyV,e=.returned (.tuple #[v.val,.bool false])∧OwnTy B w' v zeroTy
theorem ptV_none {B:Nat}{w:World}:PtV B none (.returned (.tuple #[.agg #[.int .i64 0,.slice none 0 0,.slice none 0 0,.string ⟨#[]⟩,.string ⟨#[]⟩],.bool false])) w:=
 ⟨⟨0,.slice none 0 0,.slice none 0 0,⟨#[]⟩,⟨#[]⟩⟩,rfl,ownTy_mk (rowG_nil _ _) (row_nil _ _) (by simp [Value.ownBlock])⟩
theorem rowT_caps {B n cap:Nat}{A:Option Addr}{w:World}{T:List Tok}(h:RowT B w (.slice A n cap) T):HasT w (.slice A n cap) T∧n≤cap∧cap≤9223372036854775807:=by
 refine⟨RowR.has Tok.enc_len h,?_⟩
 rcases h.2 with ⟨h',_⟩|⟨g',c',cur,h',_,_,h5,h6,_⟩
 ·cases h';exact⟨Nat.le_refl _,Nat.zero_le _⟩
 ·cases h';unfold maxLen at h6;exact⟨h5,h6⟩
theorem textT_sz {T:List Tok}(hs:∀x∈T,x.t.size≤1048576):(txS (textT T)).size≤1048576:=by
 cases T with
 | nil=>exact Nat.zero_le _
 | cons x r =>
  by_cases h:x.k=3∧x.t.size≠0
  ·rw [show textT (x::r)=some x.t from if_pos h];exact hs x (by simp)
  ·rw [show textT (x::r)=none from if_neg h];exact Nat.zero_le _
theorem bodyT_sz (k:Int){T:List Tok}{res:Option (List Rg×Nat)}(hs:∀x∈T,x.t.size≤1048576):TySz (bodyT k T res).1:=by
 have hn:∀s∈namesT T,s.size≤1048576:=fun s h=>by obtain⟨x,hx,rfl⟩:=namesT_mem s h;exact hs x hx
 have hd:∀q,(txS (textT (T.drop q))).size≤1048576:=fun q=>textT_sz fun x hx=>hs x (List.mem_of_mem_drop hx)
 have hz:(⟨#[]⟩:ByteArray).size≤1048576:=Nat.zero_le _
 unfold bodyT
 repeat' split
 ·exact⟨by simp,hz,hz⟩
 ·exact⟨by simp,hd _,hz⟩
 ·exact⟨hn,hz,hz⟩
 ·exact⟨by simp,hz,textT_sz hs⟩
 ·exact⟨by simp,hz,hz⟩
theorem tyT_sz {T:List Tok}{res:Option (List Rg×Nat)}(hs:∀x∈T,x.t.size≤1048576):TySz (tyT T res).1:=by
 unfold tyT
 split
 ·exact⟨by simp,Nat.zero_le _,Nat.zero_le _⟩
 ·exact bodyT_sz _ fun x hx=>hs x (List.mem_of_mem_drop hx)
theorem bodyT_le (k:Int){T:List Tok}{res:Option (List Rg×Nat)}(hr:rsN res≤T.length):(bodyT k T res).2≤T.length+1:=by
 have h1:∀o,txN o≤1:=fun o=>by unfold txN;split<;>omega
 have h2:=namesT_len T
 unfold bodyT
 repeat' split
 ·show rsN res≤_;omega
 ·show rsN res+txN _≤_;have:=h1 (textT (T.drop (rsN res)));omega
 ·show(namesT T).length≤_;omega
 ·show txN _≤_;have:=h1 (textT T);omega
 ·exact Nat.zero_le _
theorem tyT_le {T:List Tok}{res:Option (List Rg×Nat)}(hr:rsN res≤(T.drop 1).length):(tyT T res).2≤T.length+2:=by
 unfold tyT
 split
 ·exact Nat.zero_le _
 ·have:=bodyT_le (headK T) hr
  show 1+_≤_
  rw [List.length_drop]at this;omega
theorem iParTy_any (s:ByteArray)(hs:s.size≤1048576)(T:List Tok)(e:Option Nat)(hL:Lx s.size s.data.toList T e)(hlen:(lexT T e).length≤1048576)(hts:∀x∈lexT T e,x.t.size≤1048576)(res:Option (List Rg×Nat))(hr:Run ((lexT T e).drop 1) 0 [] res)(w:World)
  (hT:∀i s,i<7→typeWs[i]? =some s→w.cell? ⟨0,i,none⟩=some (.string ⟨s.toArray⟩)):
  Calls Tryz.prog 9 #[.string s] w fun en w'=>PtV w.heap.size (parTy e (lexT T e) res) en w'∧Below w.heap.size w w':=by
 have HB0:=hid (below_al (Below.refl w.heap.size w) (.cells #[.int .i64 0,.slice none 0 0,.slice none 0 0,.string ⟨#[]⟩,.string ⟨#[]⟩] 27))
 have HX0:Hid (∀W,Below (w.alloc (.cells #[.int .i64 0,.slice none 0 0,.slice none 0 0,.string ⟨#[]⟩,.string ⟨#[]⟩] 27)).heap.size (w.alloc (.cells #[.int .i64 0,.slice none 0 0,.slice none 0 0,.string ⟨#[]⟩,.string ⟨#[]⟩] 27)) W→TyBox W w.heap.size 0 (.slice none 0 0) (.slice none 0 0) ⟨#[]⟩ ⟨#[]⟩):=hid fun W hb=>(hb.block _ (by simp)).trans (heap_alloc_new w _)
 have HL:=hid hL
 have HTB:=hid (fun W (hb:Below w.heap.size w W) i s (hi:i<7) (hs:typeWs[i]? =some s)=>(hb.cell (lt_of_cell (hT i s hi hs))).trans (hT i s hi hs))
 have HRD:=hid (fun A n cap W (hv:RowT w.heap.size W (.slice A n cap) (lexT T e)) (hn:n≤1048576) (hb:Below w.heap.size w W)=>iRdTy_any A n cap (lexT T e) W (rowT_caps hv).1 (rowT_caps hv).2.1 (rowT_caps hv).2.2 hn hts res hr (HTB.out W hb))
 have HIS:=hid (fun v W (h:OwnTy w.heap.size W v (tyT (lexT T e) res).1)=>iIsTy_any v (tyT (lexT T e) res).1 W h.has h.nm.capN (tyT_sz hts))
 have hle:=tyT_le (T:=lexT T e) (rsN_le hr)
 obtain⟨n,hn⟩:∃n,n=(lexT T e).length:=⟨_,rfl⟩
 have HN:=hid hn
 have HP:Hid (e=none→parTy e (lexT T e) res=if (tyT (lexT T e) res).2=n∧isTyB (tyT (lexT T e) res).1=true then some (tyT (lexT T e) res).1 else none):=hid (fun h=>by subst h;rw [hn];rfl)
 have HPB:Hid (∀p,e=some p→parTy e (lexT T e) res=none):=hid (fun p h=>by subst h;rfl)
 rw [←hn]at hlen hle
 have HLL:=hid (fun W=>iLex_any s hs T e hL W)
 obtain⟨q,hq⟩:∃q,q=(tyT (lexT T e) res).2:=⟨_,rfl⟩
 obtain⟨t,ht⟩:∃t,t=(tyT (lexT T e) res).1:=⟨_,rfl⟩
 rw [←hq]at hle HP
 rw [←ht]at HIS HP
 have HRD2:Hid (∀A m cap W,RowT w.heap.size W (.slice A m cap) (lexT T e)→m≤1048576→Below w.heap.size w W→Calls Tryz.prog 32 #[.slice A m cap] W fun en w'=>(∃v:TyV,en=.returned (.tuple #[v.val,.int .i64 (q:Nat)])∧OwnTy W.heap.size w' v t)∧Below W.heap.size W w'):=hid fun A m cap W h1 h2 h3=>by
  refine(HRD.out A m cap W h1 h2 h3).mono ?_
  rintro en w' ⟨⟨v,h4,h5⟩,h6⟩
  exact⟨⟨v,by rw [hq];exact h4,by rw [ht];exact h5⟩,h6⟩
 generalize isTyB t=b at*
 clear hL hts hr hT hn hq ht HRD
 obtain⟨Z,hZ⟩:∃Z,Z=parTy e (lexT T e) res:=⟨_,rfl⟩
 rw [←hZ]at HP HPB ⊢
 clear hZ
 have main:∀(ei:Int),ei=lexI e→Calls Tryz.prog 9 #[.string s] w fun en w'=>PtV w.heap.size Z en w'∧Below w.heap.size w w':=by
  intro ei hei
  have HEI:=hid hei
  clear hei
  go_enter Tryz.func9,Tryz.ntmps9
  go_wp2_with fail
  refine(HLL.out _).mono ?_
  rintro en w1 ⟨vl,rfl,hra,hb1⟩
  obtain⟨A,cap,rfl⟩:=RowR.shape hra
  rw [←HN.out]at hra ⊢
  rw [←HEI.out]
  have HB1:=hid (below_step HB0.out hb1)
  have HX1:=hid (HX0.out w1 hb1)
  have HRA:=hid (RowR.mono hra (B':=w.heap.size) (by simp))
  clear hra hb1
  go_wp2_with fail
  refine(HRD2.out A n cap _ HRA.out hlen HB1.out).mono ?_
  rintro en w2 ⟨⟨⟨k2,vr2,vn2,pt2,ph2⟩,rfl,hown⟩,hb2⟩
  obtain⟨F,m,d,rfl⟩:∃A n c,vr2=.slice A n c:=by obtain⟨A,c,hv,_⟩:=RowR.hasG hown.rg;exact⟨A,_,c,hv⟩
  obtain⟨F',m',d',rfl⟩:∃A n c,vn2=.slice A n c:=by obtain⟨A,c,hv,_⟩:=hown.nm.has;exact⟨A,_,c,hv⟩
  have HB2:=hid (below_step HB1.out hb2)
  have HX2:=hid (HX1.out.below hb2)
  have HO2:=hid (hown.mono (B':=w.heap.size+1) HX1.out.lt)
  have hlt2:w.heap.size<w2.heap.size:=HX2.out.lt
  obtain⟨⟨y0,y1,y2,y3,y4⟩,r0,r1,r2,r3,r4⟩:=five HX2.out
  clear hown hb2
  by_cases hbad:0≤ei
  ·have HZ:Hid (Z=none):=hid (by
    cases e with
    | none=>have h9:=HEI.out;rw [show lexI none=(-1:Int)from rfl]at h9;omega
    | some p=>exact HPB.out p rfl)
   go_wp2
   have hfin:=TyBox.below (TyBox.full (k':=0) (vr':=.slice none 0 0) (vn':=.slice none 0 0) (pt':=⟨#[]⟩) (ph':=⟨#[]⟩) HX2.out) (below_al (Below.refl _ _) (.cells #[.int .i64 k2,.slice F m d,.slice F' m' d',.string pt2,.string ph2] 27))
   refine bodyPost_ret (results_ty rfl _ _ ⟨w.heap.size,0,none⟩ _ rfl (run_loadTy hfin)) rfl ?_
   rw [HZ.out]
   exact⟨ptV_none,below_al (below_set5 HB2.out (by omega)) _⟩
  ·have HEN:Hid (e=none):=hid (by
    cases e with
    | none=>rfl
    | some p=>have h9:=HEI.out;rw [show lexI (some p)=(p:Int)from rfl]at h9;omega)
   by_cases hqn:q=n
   ·have HB3:=hid (below_al HB2.out (.cells #[.int .i64 k2,.slice F m d,.slice F' m' d',.string pt2,.string ph2] 27))
    have HY3:Hid (∀W,Below (w2.alloc (.cells #[.int .i64 k2,.slice F m d,.slice F' m' d',.string pt2,.string ph2] 27)).heap.size (w2.alloc (.cells #[.int .i64 k2,.slice F m d,.slice F' m' d',.string pt2,.string ph2] 27)) W→TyBox W w2.heap.size k2 (.slice F m d) (.slice F' m' d') pt2 ph2∧TyBox W w.heap.size 0 (.slice none 0 0) (.slice none 0 0) ⟨#[]⟩ ⟨#[]⟩∧OwnTy (w.heap.size+1) W ⟨k2,.slice F m d,.slice F' m' d',pt2,ph2⟩ t):=hid fun W hb=>⟨TyBox.below (heap_alloc_new w2 _) hb,TyBox.below (TyBox.below HX2.out (below_al (Below.refl _ _) _)) hb,(HO2.out.below (below_al (Below.refl _ _) _)).below hb⟩
    have hqq:((q:Int) != (n:Int))=false:=by rw [hqn];simp
    have HQN:=hid hqn
    clear hqn y0 y1 y2 y3 y4 r0 r1 r2 r3 r4
    go_wp2_with fail
    refine(HIS.out ⟨k2,.slice F m d,.slice F' m' d',pt2,ph2⟩ _ ((HY3.out _ (Below.refl _ _)).2.2.mono (by omega))).mono ?_
    rintro en w3 ⟨rfl,hb3⟩
    obtain⟨hY3,hX3,hO3⟩:=HY3.out _ hb3
    have HX3:=hid hX3
    have HO3:=hid hO3
    have HBB:=hid (below_step HB3.out hb3)
    have hlt3:w.heap.size<w3.heap.size:=hX3.lt
    have hlt4:w2.heap.size<w3.heap.size:=hY3.lt
    obtain⟨⟨y0,y1,y2,y3,y4⟩,r0,r1,r2,r3,r4⟩:=five hX3
    obtain⟨⟨x0,x1,x2,x3,x4⟩,-⟩:=five hY3
    clear hb3 hX3 hY3 hO3
    cases b
    ·have HZ:Hid (Z=none):=hid (by rw [HP.out HEN.out];simp)
     go_wp2
     have hfin:=TyBox.full (k':=0) (vr':=.slice none 0 0) (vn':=.slice none 0 0) (pt':=⟨#[]⟩) (ph':=⟨#[]⟩) HX3.out
     refine bodyPost_ret (results_ty rfl _ _ ⟨w.heap.size,0,none⟩ _ rfl (run_loadTy hfin)) rfl ?_
     rw [HZ.out]
     exact⟨ptV_none,below_set5 HBB.out (by omega)⟩
    ·have HZ:Hid (Z=some t):=hid (by rw [HP.out HEN.out];simp [HQN.out])
     go_wp2
     have hfin:=TyBox.full (k':=k2) (vr':=.slice F m d) (vn':=.slice F' m' d') (pt':=pt2) (ph':=ph2) HX3.out
     refine bodyPost_ret (results_ty rfl _ _ ⟨w.heap.size,0,none⟩ _ rfl (run_loadTy hfin)) rfl ?_
     rw [HZ.out]
     exact⟨⟨⟨k2,.slice F m d,.slice F' m' d',pt2,ph2⟩,rfl,(OwnTy.set5 HO3.out (by omega)).mono (by omega)⟩,below_set5 HBB.out (by omega)⟩
   ·have hqq:((q:Int) != (n:Int))=true:=by simp;omega
    have HZ:Hid (Z=none):=hid (by rw [HP.out HEN.out];simp [hqn])
    have hqq':(q != n)=true:=by simpa using hqn
    clear hqn
    go_wp2
    have hfin:=TyBox.below (TyBox.full (k':=0) (vr':=.slice none 0 0) (vn':=.slice none 0 0) (pt':=⟨#[]⟩) (ph':=⟨#[]⟩) HX2.out) (below_al (Below.refl _ _) (.cells #[.int .i64 k2,.slice F m d,.slice F' m' d',.string pt2,.string ph2] 27))
    refine bodyPost_ret (results_ty rfl _ _ ⟨w.heap.size,0,none⟩ _ rfl (run_loadTy hfin)) rfl ?_
    rw [HZ.out]
    exact⟨ptV_none,below_al (below_set5 HB2.out (by omega)) _⟩
 exact main _ rfl
end
section
open Go.RowKit NumP

/- plain facts -/
theorem run_none {T:List Tok}{res:Option (List Rg×Nat)}(h:Run T 0 [] res)(h2:kB 2 T=false)(h4:mkB T minusT=false):res=none:=by
 rcases h.inv with ⟨_,h⟩|⟨x,k,h1,_⟩
 ·exact h
 ·rw [List.drop_zero,rdR_none (by
   rw [rdB_plain h4]
   cases T with
   | nil=>rfl
   | cons x r=>rw [numT_kind (by simpa [kB]using h2)];rfl)]at h1
  cases h1
theorem isTy_zero:isTyB ⟨0,[],[],⟨#[]⟩,⟨#[]⟩⟩=false:=isTy_other _ _ _ _ ⟨by omega,by omega,by omega,by omega,by omega,by omega⟩
theorem tyT_1 {T:List Tok}{res:Option (List Rg×Nat)}(h:headK T=1):tyT T res=(⟨1,rsL res,[],⟨#[]⟩,⟨#[]⟩⟩,1+rsN res):=by rw [tyT_k h (by omega)];rfl
theorem tyT_2 {T:List Tok}{res:Option (List Rg×Nat)}(h:headK T=2):tyT T res=(⟨2,rsL res,[],txS (textT (T.drop (1+rsN res))),⟨#[]⟩⟩,1+(rsN res+txN (textT (T.drop (1+rsN res))))):=by
 rw [tyT_k h (by omega)]
 show(Ty.mk 2 (rsL res) [] (txS (textT ((T.drop 1).drop (rsN res)))) ⟨#[]⟩,1+(rsN res+txN (textT ((T.drop 1).drop (rsN res)))))=_
 rw [List.drop_drop]
theorem tyT_4 {T:List Tok}{res:Option (List Rg×Nat)}(h:headK T=4):tyT T res=(⟨4,[],namesT (T.drop 1),⟨#[]⟩,⟨#[]⟩⟩,1+(namesT (T.drop 1)).length):=by rw [tyT_k h (by omega)];rfl
theorem tyT_5 {T:List Tok}{res:Option (List Rg×Nat)}(h:headK T=5):tyT T res=(⟨5,[],[],⟨#[]⟩,txS (textT (T.drop 1))⟩,1+txN (textT (T.drop 1))):=by rw [tyT_k h (by omega)];rfl
theorem tyT_3 {T:List Tok}{res:Option (List Rg×Nat)}(h:headK T=3):tyT T res=(⟨3,[],[],⟨#[]⟩,⟨#[]⟩⟩,1):=by rw [tyT_k h (by omega)];rfl
theorem tyT_6 {T:List Tok}{res:Option (List Rg×Nat)}(h:headK T=6):tyT T res=(⟨6,[],[],⟨#[]⟩,⟨#[]⟩⟩,1):=by rw [tyT_k h (by omega)];rfl
structure Rt (W0:World) (B b:Nat) (A:Option Addr) (n cap:Nat) (T:List Tok) (i:Nat) (bad:Bool) (k:Int) (vr vn:Value) (pt ph:ByteArray) (rg:List Rg) (nm:List ByteArray) (w:World):Prop where
 P:Par B b A n cap T i bad w
 G:W0.grownBy w (some b)
 bl:b<W0.heap.size
 Z:TyBox w W0.heap.size 0 (.slice none 0 0) (.slice none 0 0) ⟨#[]⟩ ⟨#[]⟩
 X:TyBox w (W0.heap.size+1) k vr vn pt ph
 R:RowG (W0.heap.size+2) w vr rg
 N:Row (W0.heap.size+2) w vn nm
section
variable {W0 w1 w2:World} {B b n cap i i':Nat} {A:Option Addr} {T:List Tok} {bad bad':Bool} {k:Int} {vr vn:Value} {pt ph:ByteArray} {rg:List Rg} {nm:List ByteArray}
end
end
section
open Go.RowKit NumP

theorem digit_plain {c:UInt8}(h:48≤c.toNat∧c.toNat≤57):digB c=true∧letB c=false∧c≠32∧c≠10∧c≠35:=by
 refine⟨decide_eq_true h,decide_eq_false (by omega),?_,?_,?_⟩<;>(rintro rfl;simp at h)
def NoDig (R:List UInt8):Prop:=∀c r,R=c::r→digB c=false
theorem tw_digits {A R:List UInt8}(hA:∀c∈A,48≤c.toNat∧c.toNat≤57)(hR:NoDig R):(A++R).takeWhile digB=A:=by
 rw [List.takeWhile_append_of_pos fun c hc=>(digit_plain (hA c hc)).1]
 cases R with
 | nil=>simp
 | cons c r=>rw [List.takeWhile_cons,if_neg (by rw [hR c r rfl];decide),List.append_nil]
theorem lx_digits {N:Nat}(m:Nat){R:List UInt8}(hR:NoDig R){T:List Tok}(h:Lx N R T none):∃p:Int,Lx N (dec m++R) (⟨2,⟨(dec m).toArray⟩,p⟩::T) none:=by
 have hd:=dec_digit m
 have hl:dgLen (dec m++R)=(dec m).length:=by unfold dgLen;rw [tw_digits hd hR]
 cases e:dec m with
 | nil=>exact absurd e (dec_ne_nil m)
 | cons c r =>
  rw [e]at hl
  obtain⟨h1,h2,h3,h4,h5⟩:=digit_plain (hd c (by rw [e];simp))
  have ht:tokL ((c::r)++R)=some (2,c::r,(c::r).length):=by
   rw [List.cons_append,tokL_dig h2 h1,←List.cons_append,hl,List.take_left]
  refine⟨_,.tok (c:=c) (r:=r++R) (by rw [List.cons_append];exact skip_stop h3 h4 h5) ht ?_⟩
  rw [←List.cons_append,List.drop_left];exact h
theorem lx_mark {N:Nat}{c:UInt8}{m R:List UInt8}(h1:letB c=false)(h2:digB c=false)(h3:c≠34)(h4:c≠32∧c≠10∧c≠35)(hm:mkLen (c::m++R)=(c::m).length){T:List Tok}(h:Lx N R T none):
  ∃p:Int,Lx N (c::m++R) (⟨4,⟨(c::m).toArray⟩,p⟩::T) none:=by
 have ht:tokL (c::m++R)=some (4,c::m,(c::m).length):=by
  have:mkLen (c::(m++R))≠0:=by rw [←List.cons_append,hm];simp
  rw [List.cons_append,tokL_mrk h1 h2 h3 this,←List.cons_append,hm,List.take_left]
 refine⟨_,.tok (c:=c) (r:=m++R) (by rw [List.cons_append];exact skip_stop h4.1 h4.2.1 h4.2.2) ht ?_⟩
 rw [←List.cons_append,List.drop_left];exact h
theorem mk_minus {c:UInt8}{r:List UInt8}:mkLen ([45]++c::r)=1:=by simp [mkLen,mk2,marks1]
theorem mk_dots {R:List UInt8}:mkLen ([46,46]++R)=2:=by simp [mkLen,mk2]
theorem mk_bar {R:List UInt8}:mkLen ([124]++R)=1:=by
 cases R<;>simp [mkLen,mk2,marks1]
def Num (n:Int):Prop:=-1000000000≤n∧n≤1000000000
theorem lx_bound {N:Nat}{n:Int}(hn:Num n){R:List UInt8}(hR:NoDig R){T:List Tok}(h:Lx N R T none):∃T1,Lx N (fmtL n++R) (T1++T) none∧∀T',rdB (T1++T')=some (n,T1.length):=by
 have hp:=parseL_fmt hn.1 hn.2
 unfold fmtL at hp ⊢
 split at hp
 ·obtain⟨p,h1⟩:=lx_digits n.natAbs hR h
  cases e:dec n.natAbs with
  | nil=>exact absurd e (dec_ne_nil _)
  | cons c r =>
   rw [e]at h1 hp
   obtain⟨q,h2⟩:=lx_mark (c:=45) (m:=[]) (R:=c::r++R) (by decide) (by decide) (by decide) (by decide) (by rw [List.cons_append];exact mk_minus) h1
   rw [if_pos (by assumption)]
   refine⟨[⟨4,⟨[45].toArray⟩,q⟩,⟨2,⟨(c::r).toArray⟩,p⟩],by simpa using h2,fun T'=>?_⟩
   unfold rdB
   rw [if_pos (by simp [mkB,minusT])]
   simp [numT,hp]
 ·obtain⟨p,h1⟩:=lx_digits n.natAbs hR h
  rw [if_neg (by assumption)]
  refine⟨[⟨2,⟨(dec n.natAbs).toArray⟩,p⟩],by simpa using h1,fun T'=>?_⟩
  unfold rdB
  rw [if_neg (by simp [mkB])]
  simp [numT,hp]
def rangeL (x:Rg):List UInt8:=(rangeS x).data.toList
theorem rangeL_one {x:Rg}(h:x.lo=x.hi):rangeL x=fmtL x.lo:=by unfold rangeL;rw [rangeS_same h];simp [fmtS]
theorem rangeL_two {x:Rg}(h:¬x.lo=x.hi):rangeL x=fmtL x.lo++([46,46]++fmtL x.hi):=by
 unfold rangeL rangeS;rw [if_neg h];simp [fmtS,dots]
def After (R:List UInt8)(T:List Tok):Prop:=NoDig R∧mkB T dotsT=false
theorem lx_range {N:Nat}{x:Rg}(h1:Num x.lo)(h2:Num x.hi){R:List UInt8}{T:List Tok}(hR:After R T)(h:Lx N R T none):∃T1,Lx N (rangeL x++R) (T1++T) none∧rdR (T1++T)=some (x,T1.length):=by
 by_cases e:x.lo=x.hi
 ·obtain⟨T1,h3,h4⟩:=lx_bound h1 hR.1 h
  refine⟨T1,by rw [rangeL_one e];exact h3,?_⟩
  unfold rdR
  rw [h4 T,Option.bind_some]
  simp only [List.drop_left]
  rw [if_neg (by rw [hR.2];decide)]
  obtain⟨lo,hi⟩:=x
  simp only at e;subst e;rfl
 ·obtain⟨T2,h3,h4⟩:=lx_bound h2 hR.1 h
  obtain⟨p,h5⟩:=lx_mark (N:=N) (c:=46) (m:=[46]) (R:=fmtL x.hi++R) (by decide) (by decide) (by decide) (by decide) mk_dots h3
  obtain⟨T1,h6,h7⟩:=lx_bound (N:=N) h1 (R:=[46,46]++(fmtL x.hi++R)) (fun c r e=>by cases e;decide) h5
  refine⟨T1++(⟨4,⟨[46,46].toArray⟩,p⟩::T2),by rw [rangeL_two e];simpa using h6,?_⟩
  unfold rdR
  rw [show T1++(⟨4,⟨[46,46].toArray⟩,p⟩::T2)++T=T1++(⟨4,⟨[46,46].toArray⟩,p⟩::(T2++T))by simp,h7,Option.bind_some]
  simp only [List.drop_left]
  rw [if_pos (by simp [mkB,dotsT])]
  rw [show(T1++(⟨4,⟨[46,46].toArray⟩,p⟩::(T2++T))).drop (T1.length+1)=T2++T by rw [←List.drop_drop,List.drop_left];rfl,h4 T]
  simp;omega
def rangesL:List Rg→List UInt8
 | []=>[]
 | [x]=>rangeL x
 | x::r=>rangeL x++124::rangesL r
theorem format_bytes (l:List Rg):(formatS l).data.toList=rangesL l:=by
 have h:∀l,Lib.join ((rngsT l).map (·.data.toList)) [124]=rangesL l:=fun l=>by
  induction l with
  | nil=>rfl
  | cons x r ih =>
   cases r with
   | nil=>simp [rngsT,rangesL,Lib.join_one,rangeL]
   | cons y r =>
    have e1:(rngsT (x::y::r)).map (·.data.toList)=rangeL x::rangeL y::(rngsT r).map (·.data.toList):=rfl
    have e2:(rngsT (y::r)).map (·.data.toList)=rangeL y::(rngsT r).map (·.data.toList):=rfl
    rw [e2,Lib.join_cons]at ih
    rw [e1,Lib.join_cons,rangesL,←ih]
    ·simp [Lib.joinTail]
    ·simp
 exact h l
end
section
open Go.RowKit NumP

theorem rdq_back7 (l r:List UInt8):rdq (escL l++34::r)=some (l,r):=by
 induction l with
 | nil=>rw [escL,List.nil_append,rdq_end rfl]
 | cons c l ih =>
  cases hc:escB c
  ·rw [escL_plain hc,List.cons_append,rdq_on (escB_not hc).1 (escB_not hc).2,ih];rfl
  ·rw [escL_esc hc,List.cons_append,List.cons_append,rdq_esc rfl hc,ih];rfl
theorem get_list7 {s:ByteArray}{k:Nat}(h:k<s.data.toList.length)(h':k<s.size):s.data.toList[k]=s[k]:=by rw [Array.getElem_toList];rfl
theorem name_list {s:ByteArray}(h:NameP s):(∃c r,s.data.toList=c::r∧letB c=true)∧(∀c∈s.data.toList,nbB c=true)∧Lib.trimRightB s.data.toList 45=s.data.toList:=by
 obtain⟨h1,h2,h3,h4,h5⟩:=h
 have hl:s.data.toList.length=s.size:=by simp
 refine⟨?_,fun c hc=>?_,?_⟩
 ·cases e:s.data.toList with
  | nil=>rw [e]at hl;simp at hl;omega
  | cons c r =>
   refine⟨c,r,rfl,?_⟩
   have:=get_list7 (s:=s) (k:=0) (by omega) h1
   simp only [e,List.getElem_cons_zero]at this
   rw [this];exact h3 h1
 ·obtain⟨k,hk,rfl⟩:=List.getElem_of_mem hc
  rw [get_list7 hk (by omega)];exact h5 k _
 ·have hne:s.data.toList≠[]:=fun e=>by rw [e]at hl;simp at hl;omega
  have hd:s.data.toList.getLast hne≠45:=by
   rw [List.getLast_eq_getElem,get_list7 (s:=s) (k:=s.data.toList.length-1) (by omega) (by omega)]
   have:=h4 (by omega)
   simpa [hl]using this
  rw [←List.dropLast_concat_getLast hne]
  generalize s.data.toList.getLast hne=d at hd
  generalize s.data.toList.dropLast=B
  unfold Lib.trimRightB
  rw [List.reverse_append]
  simp only [List.reverse_cons,List.reverse_nil,List.nil_append,List.singleton_append,List.dropWhile_cons]
  rw [if_neg (by simpa using hd)]
  simp
def NoNb (R:List UInt8):Prop:=∀c r,R=c::r→nbB c=false
theorem tw_name {A R:List UInt8}(hA:∀c∈A,nbB c=true)(hR:NoNb R):(A++R).takeWhile nbB=A:=by
 rw [List.takeWhile_append_of_pos hA]
 cases R with
 | nil=>simp
 | cons c r=>rw [List.takeWhile_cons,if_neg (by rw [hR c r rfl];decide),List.append_nil]
theorem let_plain {c:UInt8}(h:letB c=true):c≠32∧c≠10∧c≠35:=by
 refine⟨?_,?_,?_⟩<;>(rintro rfl;revert h;decide)
theorem lx_nameL {N:Nat}{A:List UInt8}(h1:∃c r,A=c::r∧letB c=true)(h2:∀c∈A,nbB c=true)(h3:Lib.trimRightB A 45=A){R:List UInt8}(hR:NoNb R){T:List Tok}(h:Lx N R T none):∃p:Int,Lx N (A++R) (⟨1,⟨A.toArray⟩,p⟩::T) none:=by
 obtain⟨c,r,e,hc⟩:=h1
 have hn:nmLen (A++R)=A.length:=by unfold nmLen;rw [tw_name h2 hR,h3]
 obtain⟨k1,k2,k3⟩:=let_plain hc
 subst e
 have ht:tokL ((c::r)++R)=some (1,c::r,(c::r).length):=by
  rw [List.cons_append,tokL_let hc,←List.cons_append,hn,List.take_left]
 refine⟨_,.tok (c:=c) (r:=r++R) (by rw [List.cons_append];exact skip_stop k1 k2 k3) ht ?_⟩
 rw [←List.cons_append,List.drop_left];exact h
theorem lx_name {N:Nat}{s:ByteArray}(hs:NameP s){R:List UInt8}(hR:NoNb R){T:List Tok}(h:Lx N R T none):∃p:Int,Lx N (s.data.toList++R) (⟨1,s,p⟩::T) none:=by
 obtain⟨h1,h2,h3⟩:=name_list hs
 have hst:(⟨s.data.toList.toArray⟩:ByteArray)=s:=by simp
 obtain⟨p,h4⟩:=lx_nameL h1 h2 h3 hR h
 rw [hst]at h4
 exact⟨p,h4⟩
theorem lx_text {N:Nat}(s:ByteArray){R:List UInt8}{T:List Tok}(h:Lx N R T none):∃p:Int,Lx N (quoteL s.data.toList++R) (⟨3,s,p⟩::T) none:=by
 have hst:(⟨s.data.toList.toArray⟩:ByteArray)=s:=by simp
 generalize s.data.toList=l at hst ⊢
 have hq:rdq (escL l++ [34]++R)=some (l,R):=by rw [List.append_assoc];exact rdq_back7 l R
 have e:quoteL l++R=34::(escL l++ [34]++R):=rfl
 have ht:tokL (34::(escL l++ [34]++R))=some (3,l,(quoteL l).length):=by
  rw [tokL_quo rfl,hq]
  simp [quoteL];omega
 rw [←hst,e]
 refine⟨_,.tok (c:=34) (r:=escL l++ [34]++R) (skip_stop (by decide) (by decide) (by decide)) ht ?_⟩
 rw [←e,List.drop_left];exact h
theorem lx_blank {N:Nat}{R:List UInt8}{T:List Tok}{e:Option Nat}(h:Lx N R T e):Lx N (32::R) T e:=h.skip (skip_blank (.inl rfl)).symm
theorem no_blank (R:List UInt8):NoNb (32::R):=fun c r e=>by cases e;decide
theorem no_nil:NoNb []:=fun c r e=>by cases e
end
section
open Go.RowKit NumP

theorem lx_rangesT {N:Nat}{R:List UInt8}{T:List Tok}(hA:After R T)(hB:mkB T barT=false)(h:Lx N R T none):∀ {l:List Rg},l≠[]→(∀x∈l,Num x.lo∧Num x.hi)→∃T1,Lx N (rangesL l++R) (T1++T) none∧∀(T0:List Tok) (Q:List Rg),Run (T0++(T1++T)) T0.length Q (some (Q++l,T0.length+T1.length))
 | [],h,_=>absurd rfl h
 | [x], _, hn => by
  obtain⟨h1,h2⟩:=hn x (by simp)
  obtain⟨T1,h3,h4⟩:=lx_range (N:=N) h1 h2 hA h
  refine⟨T1,h3,fun T0 Q=>.stop (x:=x) (k:=T1.length) (by rw [List.drop_left];exact h4) ?_⟩
  rw [←List.append_assoc,show T0.length+T1.length=(T0++T1).length by simp,List.drop_left];exact hB
 | x :: y :: r, _, hn => by
  obtain⟨h1,h2⟩:=hn x (by simp)
  obtain⟨T2,h3,h4⟩:=lx_rangesT hA hB h (l:=y::r) (by simp) (fun z hz=>hn z (List.mem_cons_of_mem _ hz))
  obtain⟨p,h5⟩:=lx_mark (N:=N) (c:=124) (m:=[]) (by decide) (by decide) (by decide) (by decide) mk_bar h3
  obtain⟨T1,h6,h7⟩:=lx_range (N:=N) h1 h2 (R:=[124]++(rangesL (y::r)++R)) ⟨(fun c r e=>by cases e;decide),by simp [mkB,dotsT]⟩ h5
  refine⟨T1++((⟨4,⟨[124].toArray⟩,p⟩:Tok)::T2),?_,fun T0 Q=>?_⟩
  ·have e:rangesL (x::y::r)++R=rangeL x++([124]++(rangesL (y::r)++R)):=by rw [rangesL];simp;simp
   rw [e];simpa using h6
  ·have e:T0++(T1++((⟨4,⟨[124].toArray⟩,p⟩:Tok)::T2)++T)=(T0++(T1++ [(⟨4,⟨[124].toArray⟩,p⟩:Tok)]))++(T2++T):=by simp
   have h8:=h4 (T0++(T1++ [(⟨4,⟨[124].toArray⟩,p⟩:Tok)])) (Q++ [x])
   refine .more (x:=x) (k:=T1.length) ?_ ?_ ?_
   ·rw [List.drop_left];simpa using h7
   ·rw [show T0++(T1++((⟨4,⟨[124].toArray⟩,p⟩:Tok)::T2)++T)=(T0++T1)++((⟨4,⟨[124].toArray⟩,p⟩:Tok)::(T2++T))by simp,show T0.length+T1.length=(T0++T1).length by simp,List.drop_left];simp [mkB,barT]
   ·rw [e]
    have e1:(T0++(T1++ [(⟨4,⟨[124].toArray⟩,p⟩:Tok)])).length=T0.length+T1.length+1:=by simp;omega
    rw [e1]at h8
    have e2:T0.length+(T1++((⟨4,⟨[124].toArray⟩,p⟩:Tok)::T2)).length=T0.length+T1.length+1+T2.length:=by simp;omega
    rw [e2]
    simpa using h8
theorem join_head (x:List UInt8){r:List (List UInt8)}(h:r≠[]):Lib.join (x::r) [32]=x++32::Lib.join r [32]:=by
 cases r with
 | nil=>exact absurd rfl h
 | cons y r=>rw [Lib.join_cons,Lib.join_cons];simp [Lib.joinTail]
theorem lx_names {N:Nat}:∀ {l:List ByteArray},l≠[]→(∀s∈l,NameP s)→∃T,Lx N (Lib.join (l.map (·.data.toList)) [32]) T none∧namesT T=l∧T.length=l.length
 | [],h,_=>absurd rfl h
 | [s], _, hn => by
  obtain⟨p,h1⟩:=lx_name (N:=N) (hn s (by simp)) no_nil (.fin (skip_nil _))
  exact⟨_,by simpa [Lib.join_one]using h1,by simp [namesT],rfl⟩
 | s :: y :: r, _, hn => by
  obtain⟨T,h1,h2,h3⟩:=lx_names (N:=N) (l:=y::r) (by simp) (fun z hz=>hn z (List.mem_cons_of_mem _ hz))
  obtain⟨p,h4⟩:=lx_name (N:=N) (hn s (by simp)) (no_blank _) (lx_blank h1)
  refine⟨⟨1,s,p⟩::T,?_,by rw [namesT,if_pos rfl,h2],by rw [List.length_cons,h3];rfl⟩
  rw [List.map_cons,join_head _ (by simp)];exact h4
theorem lx_word {N:Nat}{k:Int}(hk:k=1∨k=2∨k=3∨k=4∨k=5∨k=6){R:List UInt8}(hR:NoNb R){T:List Tok}(h:Lx N R T none):∃p:Int,Lx N ((tyW k).data.toList++R) (⟨1,tyW k,p⟩::T) none:=by
 rcases hk with rfl|rfl|rfl|rfl|rfl|rfl
 ·exact lx_nameL (A:=[105,110,116]) ⟨_,_,rfl,by decide⟩ (by decide) (by decide) hR h
 ·exact lx_nameL (A:=[116,101,120,116]) ⟨_,_,rfl,by decide⟩ (by decide) (by decide) hR h
 ·exact lx_nameL (A:=[98,111,111,108]) ⟨_,_,rfl,by decide⟩ (by decide) (by decide) hR h
 ·exact lx_nameL (A:=[101,110,117,109]) ⟨_,_,rfl,by decide⟩ (by decide) (by decide) hR h
 ·exact lx_nameL (A:=[114,101,102]) ⟨_,_,rfl,by decide⟩ (by decide) (by decide) hR h
 ·exact lx_nameL (A:=[102,108,97,103]) ⟨_,_,rfl,by decide⟩ (by decide) (by decide) hR h
theorem wordK_tyW {k:Int}(hk:k=1∨k=2∨k=3∨k=4∨k=5∨k=6):wordK (tyW k)=k:=by
 rcases hk with rfl|rfl|rfl|rfl|rfl|rfl<;>rfl
theorem headK_tyW {k:Int}(hk:k=1∨k=2∨k=3∨k=4∨k=5∨k=6)(p:Int)(T:List Tok):headK (⟨1,tyW k,p⟩::T)=k:=by
 show(if (1:Int)=1 then wordK (tyW k)else 0)=k
 rw [if_pos rfl];exact wordK_tyW hk
theorem emB_nil {s:ByteArray}(h:emB s=true):s=⟨#[]⟩:=by
 rcases em_cases s with h1|⟨_,_,_,h1⟩
 ·exact h1
 ·rw [h]at h1;cases h1
theorem emB_size {s:ByteArray}(h:emB s=false):s.size≠0:=by unfold emB at h;simpa using h
theorem qtL_some {s:ByteArray}(h:emB s=false):qtL s=[quoteS s]:=if_neg (by rw [h];decide)
theorem rgL_some {l:List Rg}(h:l≠[]):rgL l=[formatS l]:=if_neg fun e=>h (List.length_eq_zero_iff.1 e)
theorem tyP4_eq (k:Int)(rg:List Rg)(nm:List ByteArray)(pt ph:ByteArray):tyP4 ⟨k,rg,nm,pt,ph⟩=[tyW k]++rgL rg++nm++qtL pt++qtL ph:=rfl
theorem quote_bytes (s:ByteArray):(quoteS s).data.toList=quoteL s.data.toList:=by unfold quoteS;simp
theorem after_nil:After [] []:=⟨(fun c r e=>by cases e),rfl⟩
theorem after_text {l:List UInt8}(s:ByteArray)(p:Int):After (32::quoteL l) [⟨3,s,p⟩]:=⟨(fun c r e=>by cases e;decide),mkB_kind (by show ¬((3:Int)=4);omega)⟩
theorem run_quote {s:ByteArray}{p:Int}{res:Option (List Rg×Nat)}(h:Run [⟨3,s,p⟩] 0 [] res):res=none:=run_none h (by simp [kB]) (mkB_kind (by show ¬((3:Int)=4);omega))
theorem run_empty {res:Option (List Rg×Nat)}(h:Run [] 0 [] res):res=none:=run_none h rfl rfl
theorem back_type {t:Ty}(h:isTyB t=true)(N:Nat):∃T res,Lx N (joinC 32 (tyP4 t)).data.toList T none∧Run (T.drop 1) 0 [] res∧tyT T res=(t,T.length):=by
 have hj:∀xs:List ByteArray,(joinC 32 xs).data.toList=Lib.join (xs.map (·.data.toList)) [32]:=fun xs=>by unfold joinC;simp
 obtain⟨k,rg,nm,pt,ph⟩:=t
 have hk:k=1∨k=2∨k=3∨k=4∨k=5∨k=6:=by
  by_cases hk:k≠1∧k≠2∧k≠3∧k≠4∧k≠5∧k≠6
  ·rw [isTy_other rg nm pt ph hk]at h;cases h
  ·omega
 have hnum:areB rg=true→∀x∈rg,Num x.lo∧Num x.hi:=fun ha x hx=>by
  have hA:Are rg:=@of_decide_eq_true _ (Classical.propDecidable _) ha
  have:=hA.2.2 x hx
  unfold Rg.ok at this;unfold Num;omega
 rw [hj]
 rcases hk with rfl|rfl|rfl|rfl|rfl|rfl
 ·rw [isTy_1]at h
  simp only [Bool.and_eq_true,decide_eq_true_eq]at h
  obtain⟨⟨⟨ha,hn⟩,hp⟩,hq⟩:=h
  obtain rfl:=List.length_eq_zero_iff.1 hn
  obtain rfl:=emB_nil hp
  obtain rfl:=emB_nil hq
  by_cases hr:rg=[]
  ·subst hr
   obtain⟨p,h1⟩:=lx_word (N:=N) (k:=1) (by omega) no_nil (.fin (skip_nil _))
   obtain⟨res,hres⟩:=Run.exists [] 0 0 [] (by simp)
   have e:=run_empty hres
   subst e
   refine⟨[⟨1,tyW 1,p⟩],none,?_,hres,by rw [tyT_1 (headK_tyW (by omega) p [])];rfl⟩
   rw [tyP4_eq,rgL_nil (l:=[]) rfl,qtL_nil]
   simpa [Lib.join_one]using h1
  ·obtain⟨T1,h1,h2⟩:=lx_rangesT (N:=N) after_nil rfl (.fin (skip_nil _)) hr (hnum ha)
   rw [List.append_nil,List.append_nil]at h1
   obtain⟨p,h3⟩:=lx_word (N:=N) (k:=1) (by omega) (no_blank _) (lx_blank h1)
   have hrl:¬rg.length=0:=fun e=>hr (List.length_eq_zero_iff.1 e)
   refine⟨⟨1,tyW 1,p⟩::T1,some (rg,T1.length),?_,by simpa using h2 [] [],by rw [tyT_1 (headK_tyW (by omega) p T1)];simp [rsL,rsN];omega⟩
   have e:tyP4 ⟨1,rg,[],⟨#[]⟩,⟨#[]⟩⟩=[tyW 1,formatS rg]:=by rw [tyP4_eq,rgL_some hr,qtL_nil];rfl
   rw [e,List.map_cons,List.map_cons,List.map_nil,join_head _ (by simp),Lib.join_one,format_bytes]
   exact h3
 ·rw [isTy_2]at h
  simp only [Bool.and_eq_true,decide_eq_true_eq]at h
  obtain⟨⟨⟨⟨ha,_⟩,_⟩,hn⟩,hq⟩:=h
  obtain rfl:=List.length_eq_zero_iff.1 hn
  obtain rfl:=emB_nil hq
  cases hpe:emB pt with
  | true =>
   obtain rfl:=emB_nil hpe
   by_cases hr:rg=[]
   ·subst hr
    obtain⟨p,h1⟩:=lx_word (N:=N) (k:=2) (by omega) no_nil (.fin (skip_nil _))
    obtain⟨res,hres⟩:=Run.exists [] 0 0 [] (by simp)
    have e:=run_empty hres
    subst e
    refine⟨[⟨1,tyW 2,p⟩],none,?_,hres,by rw [tyT_2 (headK_tyW (by omega) p [])];rfl⟩
    rw [tyP4_eq,rgL_nil (l:=[]) rfl,qtL_nil]
    simpa [Lib.join_one]using h1
   ·obtain⟨T1,h1,h2⟩:=lx_rangesT (N:=N) after_nil rfl (.fin (skip_nil _)) hr (hnum ha)
    rw [List.append_nil,List.append_nil]at h1
    obtain⟨p,h3⟩:=lx_word (N:=N) (k:=2) (by omega) (no_blank _) (lx_blank h1)
    have hrl:¬rg.length=0:=fun e=>hr (List.length_eq_zero_iff.1 e)
    refine⟨⟨1,tyW 2,p⟩::T1,some (rg,T1.length),?_,by simpa using h2 [] [],?_⟩
    ·have e:tyP4 ⟨2,rg,[],⟨#[]⟩,⟨#[]⟩⟩=[tyW 2,formatS rg]:=by rw [tyP4_eq,rgL_some hr,qtL_nil];rfl
     rw [e,List.map_cons,List.map_cons,List.map_nil,join_head _ (by simp),Lib.join_one,format_bytes]
     exact h3
    ·rw [tyT_2 (headK_tyW (by omega) p T1)]
     have e1:((⟨1,tyW 2,p⟩:Tok)::T1).drop (1+T1.length)=[]:=List.drop_eq_nil_of_le (by simp;omega)
     show((⟨2,rg,[],txS (textT (((⟨1,tyW 2,p⟩:Tok)::T1).drop (1+T1.length))),⟨#[]⟩⟩:Ty),1+(T1.length+txN (textT (((⟨1,tyW 2,p⟩:Tok)::T1).drop (1+T1.length)))))=_
     rw [e1]
     show((⟨2,rg,[],⟨#[]⟩,⟨#[]⟩⟩:Ty),1+(T1.length+0))=_
     simp;omega
  | false =>
   have hps:=emB_size hpe
   obtain⟨pq,hq1⟩:=lx_text (N:=N) pt (.fin (skip_nil _))
   rw [List.append_nil]at hq1
   by_cases hr:rg=[]
   ·subst hr
    obtain⟨p,h1⟩:=lx_word (N:=N) (k:=2) (by omega) (no_blank _) (lx_blank hq1)
    obtain⟨res,hres⟩:=Run.exists [(⟨3,pt,pq⟩:Tok)] 1 0 [] (by simp)
    have e:=run_quote hres
    subst e
    refine⟨[⟨1,tyW 2,p⟩,⟨3,pt,pq⟩],none,?_,hres,?_⟩
    ·have e:tyP4 ⟨2,[],[],pt,⟨#[]⟩⟩=[tyW 2,quoteS pt]:=by rw [tyP4_eq,rgL_nil (l:=[]) rfl,qtL_some hpe,qtL_nil];rfl
     rw [e,List.map_cons,List.map_cons,List.map_nil,join_head _ (by simp),Lib.join_one,quote_bytes]
     exact h1
    ·rw [tyT_2 (headK_tyW (by omega) p [⟨3,pt,pq⟩])]
     have e1:textT [(⟨3,pt,pq⟩:Tok)]=some pt:=textT_some rfl hps
     show((⟨2,[],[],txS (textT [(⟨3,pt,pq⟩:Tok)]),⟨#[]⟩⟩:Ty),1+(0+txN (textT [(⟨3,pt,pq⟩:Tok)])))=_
     rw [e1];rfl
   ·obtain⟨T1,h1,h2⟩:=lx_rangesT (N:=N) (after_text pt pq) (mkB_kind (by show ¬((3:Int)=4);omega)) (lx_blank hq1) hr (hnum ha)
    obtain⟨p,h3⟩:=lx_word (N:=N) (k:=2) (by omega) (no_blank _) (lx_blank h1)
    have hrl:¬rg.length=0:=fun e=>hr (List.length_eq_zero_iff.1 e)
    refine⟨⟨1,tyW 2,p⟩::(T1++ [⟨3,pt,pq⟩]),some (rg,T1.length),?_,by simpa using h2 [] [],?_⟩
    ·have e:tyP4 ⟨2,rg,[],pt,⟨#[]⟩⟩=[tyW 2,formatS rg,quoteS pt]:=by rw [tyP4_eq,rgL_some hr,qtL_some hpe,qtL_nil];rfl
     rw [e,List.map_cons,List.map_cons,List.map_cons,List.map_nil,join_head _ (by simp),join_head _ (by simp),Lib.join_one,format_bytes,quote_bytes]
     exact h3
    ·rw [show tyT (⟨1,tyW 2,p⟩::(T1++ [(⟨3,pt,pq⟩:Tok)])) (some (rg,T1.length))=_ from tyT_2 (headK_tyW (k:=2) (by omega) p (T1++ [(⟨3,pt,pq⟩:Tok)]))]
     have e1:textT [(⟨3,pt,pq⟩:Tok)]=some pt:=textT_some rfl hps
     have e2:((⟨1,tyW 2,p⟩:Tok)::(T1++ [(⟨3,pt,pq⟩:Tok)])).drop (1+T1.length)=[(⟨3,pt,pq⟩:Tok)]:=by
      rw [Nat.add_comm,List.drop_succ_cons,List.drop_left]
     show((⟨2,rg,[],txS (textT (((⟨1,tyW 2,p⟩:Tok)::(T1++ [(⟨3,pt,pq⟩:Tok)])).drop (1+T1.length))),⟨#[]⟩⟩:Ty),1+(T1.length+txN (textT (((⟨1,tyW 2,p⟩:Tok)::(T1++ [(⟨3,pt,pq⟩:Tok)])).drop (1+T1.length)))))=_
     rw [e2,e1]
     show((⟨2,rg,[],pt,⟨#[]⟩⟩:Ty),1+(T1.length+1))=_
     simp;omega
 ·rw [isTy_3]at h
  simp only [Bool.and_eq_true,decide_eq_true_eq]at h
  obtain⟨⟨⟨hr,hn⟩,hp⟩,hq⟩:=h
  obtain rfl:=List.length_eq_zero_iff.1 hr
  obtain rfl:=List.length_eq_zero_iff.1 hn
  obtain rfl:=emB_nil hp
  obtain rfl:=emB_nil hq
  obtain⟨p,h1⟩:=lx_word (N:=N) (k:=3) (by omega) no_nil (.fin (skip_nil _))
  obtain⟨res,hres⟩:=Run.exists [] 0 0 [] (by simp)
  refine⟨[⟨1,tyW 3,p⟩],res,?_,hres,by rw [tyT_3 (headK_tyW (by omega) p [])];rfl⟩
  rw [tyP4_eq,rgL_nil (l:=[]) rfl,qtL_nil]
  simpa [Lib.join_one]using h1
 ·have hnm:namesB nm=true:=by
   cases hb:namesB nm with
   | true=>rfl
   | false =>
    exfalso
    have h9:isTyB ⟨4,rg,nm,pt,ph⟩=((decide (rg.length=0)&&decide (([]:List ByteArray).length=0)&&emB pt&&emB ph)&&enumB nm):=rfl
    rw [h9]at h
    unfold enumB at h
    rw [hb]at h;simp at h
  rw [isTy_4 rg nm pt ph hnm]at h
  simp only [Bool.and_eq_true,decide_eq_true_eq]at h
  obtain⟨⟨⟨hn,hr⟩,hp⟩,hq⟩:=h
  obtain rfl:=List.length_eq_zero_iff.1 hr
  obtain rfl:=emB_nil hp
  obtain rfl:=emB_nil hq
  have hok:NamesOk nm nm.length:=@of_decide_eq_true _ (Classical.propDecidable _) hnm
  have hne:nm≠[]:=fun e=>by rw [e]at hn;simp at hn
  obtain⟨T1,h1,h2,h3⟩:=lx_names (N:=N) hne (fun s hs=>by
   obtain⟨i,hi,rfl⟩:=List.getElem_of_mem hs
   exact(hok i hi hi).1)
  obtain⟨p,h4⟩:=lx_word (N:=N) (k:=4) (by omega) (no_blank _) (lx_blank h1)
  obtain⟨res,hres⟩:=Run.exists T1 T1.length 0 [] (by simp)
  refine⟨⟨1,tyW 4,p⟩::T1,res,?_,hres,?_⟩
  ·have e:tyP4 ⟨4,[],nm,⟨#[]⟩,⟨#[]⟩⟩=tyW 4::nm:=by rw [tyP4_eq,rgL_nil (l:=[]) rfl,qtL_nil];simp
   rw [e,List.map_cons,join_head _ (by simpa using hne)]
   exact h4
  ·rw [tyT_4 (headK_tyW (by omega) p T1)]
   show((⟨4,[],namesT T1,⟨#[]⟩,⟨#[]⟩⟩:Ty),1+(namesT T1).length)=_
   rw [h2];simp;omega
 ·rw [isTy_5]at h
  simp only [Bool.and_eq_true,decide_eq_true_eq,Bool.not_eq_true']at h
  obtain⟨⟨⟨⟨_,he⟩,hr⟩,hn⟩,hp⟩:=h
  obtain rfl:=List.length_eq_zero_iff.1 hr
  obtain rfl:=List.length_eq_zero_iff.1 hn
  obtain rfl:=emB_nil hp
  have hps:=emB_size he
  obtain⟨pq,hq1⟩:=lx_text (N:=N) ph (.fin (skip_nil _))
  rw [List.append_nil]at hq1
  obtain⟨p,h1⟩:=lx_word (N:=N) (k:=5) (by omega) (no_blank _) (lx_blank hq1)
  obtain⟨res,hres⟩:=Run.exists [(⟨3,ph,pq⟩:Tok)] 1 0 [] (by simp)
  refine⟨[⟨1,tyW 5,p⟩,⟨3,ph,pq⟩],res,?_,hres,?_⟩
  ·have e:tyP4 ⟨5,[],[],⟨#[]⟩,ph⟩=[tyW 5,quoteS ph]:=by rw [tyP4_eq,rgL_nil (l:=[]) rfl,qtL_nil,qtL_some he];rfl
   rw [e,List.map_cons,List.map_cons,List.map_nil,join_head _ (by simp),Lib.join_one,quote_bytes]
   exact h1
  ·rw [tyT_5 (headK_tyW (by omega) p [⟨3,ph,pq⟩])]
   have e1:textT [(⟨3,ph,pq⟩:Tok)]=some ph:=textT_some rfl hps
   show((⟨5,[],[],⟨#[]⟩,txS (textT [(⟨3,ph,pq⟩:Tok)])⟩:Ty),1+txN (textT [(⟨3,ph,pq⟩:Tok)]))=_
   rw [e1];rfl
 ·rw [isTy_6]at h
  simp only [Bool.and_eq_true,decide_eq_true_eq]at h
  obtain⟨⟨⟨hr,hn⟩,hp⟩,hq⟩:=h
  obtain rfl:=List.length_eq_zero_iff.1 hr
  obtain rfl:=List.length_eq_zero_iff.1 hn
  obtain rfl:=emB_nil hp
  obtain rfl:=emB_nil hq
  obtain⟨p,h1⟩:=lx_word (N:=N) (k:=6) (by omega) no_nil (.fin (skip_nil _))
  obtain⟨res,hres⟩:=Run.exists [] 0 0 [] (by simp)
  refine⟨[⟨1,tyW 6,p⟩],res,?_,hres,by rw [tyT_6 (headK_tyW (by omega) p [])];rfl⟩
  rw [tyP4_eq,rgL_nil (l:=[]) rfl,qtL_nil]
  simpa [Lib.join_one]using h1
end
section
open Go.RowKit

structure CurI (w:World) (g:Nat) (A:Option Addr) (n cap i:Nat) (h:Int):Prop where
 len:n≤9223372036854775807
 at_:i≤n
 blk:w.heap[g]? =some (.cells #[.slice A n cap,.int .i64 (i:Int),.int .i64 h] 82 (0,0))
 bytes:∀j,j<n→∃(a:Addr) (x:Int),A=some a∧a.block≠g∧0≤x∧x≤255∧w.cell? (a.add j)=some (.int .u8 x)
def Cur (w:World)(g:Nat)(A:Option Addr)(n cap:Nat):Prop:=∃i h,CurI w g A n cap i h
theorem add_block (a:Addr)(j:Nat):(a.add j).block=a.block:=by unfold Addr.add;split<;>rfl
section
variable {w w':World} {g:Nat} {A:Option Addr} {n cap i:Nat} {h:Int}
theorem CurI.lt (c:CurI w g A n cap i h):g<w.heap.size:=by
 rcases Nat.lt_or_ge g w.heap.size with hlt|hge
 ·exact hlt
 ·have:=c.blk;rw [Array.getElem?_eq_none hge]at this;cases this
theorem CurI.drewN (c:CurI w g A n cap i h)(k:Nat):CurI (w.drewN k) g A n cap i h:=⟨c.len,c.at_,c.blk,fun j hj=>by
 obtain⟨a,x,h1,h2,h3,h4,h5⟩:=c.bytes j hj
 exact⟨a,x,h1,h2,h3,h4,by simpa using h5⟩⟩
theorem CurI.set2 (c:CurI w g A n cap i h)(h':Int):CurI (w.setCell ⟨g,2,none⟩ (.int .i64 h')) g A n cap i h':=
 ⟨c.len,c.at_,by rw [heap_setCell_same w g 2 _ _ _ c.blk];rfl,fun j hj=>by
  obtain⟨a,x,h1,h2,h3,h4,h5⟩:=c.bytes j hj
  exact⟨a,x,h1,h2,h3,h4,by rw [World.cell?_setCell_other w _ _ _ (fun e=>h2 (by rw [←add_block a j,←e]))];exact h5⟩⟩
theorem CurI.set1 (c:CurI w g A n cap i h){i':Nat}(hi:i'≤n):CurI (w.setCell ⟨g,1,none⟩ (.int .i64 (i':Int))) g A n cap i' h:=
 ⟨c.len,hi,by rw [heap_setCell_same w g 1 _ _ _ c.blk];rfl,fun j hj=>by
  obtain⟨a,x,h1,h2,h3,h4,h5⟩:=c.bytes j hj
  exact⟨a,x,h1,h2,h3,h4,by rw [World.cell?_setCell_other w _ _ _ (fun e=>h2 (by rw [←add_block a j,←e]))];exact h5⟩⟩
theorem CurI.next (c:CurI w g A n cap i h)(hi:i<n):CurI (w.setCell ⟨g,1,none⟩ (.int .i64 ((i:Int)+1))) g A n cap (i+1) h:=c.set1 (i':=i+1) hi
theorem byG_drewN {a:World}{row:Option Nat}(k:a.grownBy w row)(q:Nat):a.grownBy (w.drewN q) row:=⟨k.os,k.tape,k.output,k.size,k.block⟩
theorem byG_set {a:World}(k:a.grownBy w (some g))(j:Nat)(u:Value):a.grownBy (w.setCell ⟨g,j,none⟩ u) (some g):=
 ⟨k.os,k.tape,k.output,by simpa [World.setCell]using k.size,fun b hb hne=>(Below.heap_setCell w ⟨g,j,none⟩ u b (fun e=>hne (by rw [e]))).trans (k.block b hb hne)⟩
end

theorem and255 (n:Int):0≤bits .and .i64 n 255∧bits .and .i64 n 255≤255:=by
 have h:((BitVec.ofInt 64 n) &&& (BitVec.ofInt 64 255)).toNat≤255:=by
  rw [BitVec.toNat_and];exact Nat.le_trans Nat.and_le_right (by decide)
 have e:bits .and .i64 n 255=IntKind.i64.wrap (((BitVec.ofInt 64 n) &&& (BitVec.ofInt 64 255)).toNat:Int):=rfl
 rw [e]
 generalize ((BitVec.ofInt 64 n) &&& (BitVec.ofInt 64 255)).toNat=q at h
 rw [IntWalk.i64_in _ (by omega)]
 omega
def ByteOut (w:World)(g:Nat)(A:Option Addr)(n cap:Nat)(e:Ending)(w':World):Prop:=
 ∃x:Int,0≤x∧x≤255∧e=.returned (.int .i64 x)∧Cur w' g A n cap∧w.grownBy w' (some g)
theorem byte_any (g:Nat)(A:Option Addr)(n cap:Nat)(w:World)(hc:Cur w g A n cap):
  Calls Tryz.prog 88 #[.pointer (some ⟨g,0,none⟩)] w (ByteOut w g A n cap):=by
 obtain⟨i,h,hc⟩:=hc
 have hi:=hc.at_
 have hlen:=hc.len
 have c0:w.cell? ⟨g,0,none⟩=some (.slice A n cap):=by rw [cell_of_row w g 0 _ _ _ hc.blk];rfl
 have c1:w.cell? ⟨g,1,none⟩=some (.int .i64 (i:Int)):=by rw [cell_of_row w g 1 _ _ _ hc.blk];rfl
 have c2:w.cell? ⟨g,2,none⟩=some (.int .i64 h):=by rw [cell_of_row w g 2 _ _ _ hc.blk];rfl
 have f1:w.frozen? ⟨g,1,none⟩=false:=by simp [World.frozen?,hc.blk]
 have f2:w.frozen? ⟨g,2,none⟩=false:=by simp [World.frozen?,hc.blk]
 have g0:w.grownBy w (some g):=⟨rfl,rfl,rfl,Nat.le_refl _,fun _ _ _=>rfl⟩
 by_cases hlt:i<n
 ·obtain⟨a,x,rfl,hne,hx0,hx1,hcell⟩:=hc.bytes i hlt
  have hcell':∀y,(w.setCell ⟨g,2,none⟩ y).cell? (a.add i)=some (.int .u8 x):=fun y=>by
   rw [World.cell?_setCell_other w _ _ _ (fun e=>hne (by rw [←add_block a i,←e]))];exact hcell
  have HC:=hid hc
  have HG:=hid g0
  clear hc g0
  go_enter Tryz.func88,Tryz.ntmps88
  go_wp2
  generalize wrap64 (wrap64 (h*6364136223846793005)+1442695040888963407)=y
  have hcy:=hcell' (.int .i64 y)
  clear hcell' hcell
  go_quiet (fail)
  have hz:=and255 (bits BinOp.xor IntKind.i64 (y / 8589934592) (y / 140737488355328))
  generalize bits BinOp.and IntKind.i64 (bits BinOp.xor IntKind.i64 (y / 8589934592) (y / 140737488355328)) 255=z at hz ⊢
  go_wp2
  go_quiet (fail)
  go_wp2
  go_quiet (fail)
  go_wp2
  go_ret
  have hv:=and255 (z+x)
  exact⟨_,hv.1,hv.2,rfl,⟨i+1,y,((HC.out.set2 y).drewN _).next (by omega)⟩,byG_set (byG_drewN (byG_set HG.out 2 _) _) 1 _⟩
 ·have HC:=hid hc
  have HG:=hid g0
  clear hc g0
  go_enter Tryz.func88,Tryz.ntmps88
  go_wp2
  generalize wrap64 (wrap64 (h*6364136223846793005)+1442695040888963407)=y
  go_quiet (fail)
  have hz:=and255 (bits BinOp.xor IntKind.i64 (y / 8589934592) (y / 140737488355328))
  generalize bits BinOp.and IntKind.i64 (bits BinOp.xor IntKind.i64 (y / 8589934592) (y / 140737488355328)) 255=z at hz ⊢
  go_wp2
  go_quiet (fail)
  go_wp2
  go_ret
  exact⟨z,hz.1,hz.2,rfl,⟨i,y,((HC.out.set2 y).drewN _).drewN _⟩,byG_drewN (byG_drewN (byG_set HG.out 2 _) _) _⟩
end
section
open Go.RowKit

def BelowOut (w:World)(g:Nat)(A:Option Addr)(n cap:Nat)(m:Int)(e:Ending)(w':World):Prop:=
 ∃x:Int,0≤x∧(m≤0→x=0)∧(0<m→x<m)∧e=.returned (.int .i64 x)∧Cur w' g A n cap∧w.grownBy w' (some g)
theorem byG_refl (w:World)(row:Option Nat):w.grownBy w row:=⟨rfl,rfl,rfl,Nat.le_refl _,fun _ _ _=>rfl⟩
theorem below_any (g:Nat)(A:Option Addr)(n cap:Nat)(m:Int)(hm:m≤9223372036854775807)(w:World)(hc:Cur w g A n cap):
  Calls Tryz.prog 44 #[.pointer (some ⟨g,0,none⟩),.int .i64 m] w (BelowOut w g A n cap m):=by
 by_cases h0:m≤0
 ·go_enter Tryz.func44,Tryz.ntmps44
  go_wp2
  go_ret
  exact⟨0,by omega,fun _=>rfl,fun h=>by omega,rfl,hc,byG_refl _ _⟩
 ·by_cases h1:m≤256
  ·go_enter Tryz.func44,Tryz.ntmps44
   go_wp2_with (go_at_call 88;refine(byte_any g A n cap _ hc).mono ?_;rintro e w' ⟨x,hx0,hx1,rfl,hc1,hg1⟩)
   go_ret
   exact⟨x % m,Int.emod_nonneg _ (by omega),fun h=>by omega,fun h=>Int.emod_lt_of_pos _ h,rfl,hc1,hg1⟩
  ·go_enter Tryz.func44,Tryz.ntmps44
   go_wp2_with (first
    |(go_at_call 88;refine(byte_any g A n cap _ hc).mono ?_;rintro e w1 ⟨x,hx0,hx1,rfl,hc1,hg1⟩;clear hc)
    |(go_at_call 88;refine(byte_any g A n cap _ hc1).mono ?_;rintro e w2 ⟨y,hy0,hy1,rfl,hc2,hg2⟩;clear hc1)
    |(go_at_call 88;refine(byte_any g A n cap _ hc2).mono ?_;rintro e w3 ⟨z,hz0,hz1,rfl,hc3,hg3⟩;clear hc2))
   go_ret
   exact⟨_,Int.emod_nonneg _ (by omega),fun h=>by omega,fun h=>Int.emod_lt_of_pos _ h,rfl,hc3,(hg1.trans hg2).trans hg3⟩
def OnceOut (w:World)(g:Nat)(A:Option Addr)(n cap:Nat)(e:Ending)(w':World):Prop:=
 ∃b:Bool,e=.returned (.bool b)∧Cur w' g A n cap∧w.grownBy w' (some g)
theorem once_any (g:Nat)(A:Option Addr)(n cap:Nat)(m:Int)(hm:m≤9223372036854775807)(w:World)(hc:Cur w g A n cap):
  Calls Tryz.prog 73 #[.pointer (some ⟨g,0,none⟩),.int .i64 m] w (OnceOut w g A n cap):=by
 go_enter Tryz.func73,Tryz.ntmps73
 go_wp2_with (go_at_call 44;refine(below_any g A n cap m hm _ hc).mono ?_;rintro e w' ⟨x,hx0,hx1,hx2,rfl,hc1,hg1⟩)
 go_ret
 exact⟨_,rfl,hc1,hg1⟩
theorem far_cell {w w':World}{g:Nat}(h:w.grownBy w' (some g)){p:Addr}{v:Value}(hp:w.cell? p=some v)(hne:p.block≠g):w'.cell? p=some v:=by
 have hlt:p.block<w.heap.size:=by
  rcases Nat.lt_or_ge p.block w.heap.size with hlt|hge
  ·exact hlt
  ·unfold World.cell? at hp;rw [Array.getElem?_eq_none hge]at hp;cases hp
 rw [World.cell?_of_block (h.block p.block hlt (fun e=>hne (by injection e)))];exact hp
def IntsAt (P:Int→Prop)(w:World)(g:Nat)(a:Addr)(len:Nat):Prop:=a.block≠g∧∀j,j<len→∃v:Int,P v∧w.cell? (a.add j)=some (.int .i64 v)
def StrsAt (P:ByteArray→Prop)(w:World)(g:Nat)(a:Addr)(len:Nat):Prop:=a.block≠g∧∀j,j<len→∃v:ByteArray,P v∧w.cell? (a.add j)=some (.string v)
def IntOut (P:Int→Prop)(w:World)(g:Nat)(A:Option Addr)(n cap:Nat)(e:Ending)(w':World):Prop:=
 ∃v:Int,P v∧e=.returned (.int .i64 v)∧Cur w' g A n cap∧w.grownBy w' (some g)
def StrOut (P:ByteArray→Prop)(w:World)(g:Nat)(A:Option Addr)(n cap:Nat)(e:Ending)(w':World):Prop:=
 ∃v:ByteArray,P v∧e=.returned (.string v)∧Cur w' g A n cap∧w.grownBy w' (some g)
theorem int_any (P:Int→Prop)(g:Nat)(A:Option Addr)(n cap:Nat)(a:Addr)(len c:Nat)(h0:0<len)(hl:len≤9223372036854775807)(w:World)(hi:IntsAt P w g a len)(hc:Cur w g A n cap):
  Calls Tryz.prog 107 #[.pointer (some ⟨g,0,none⟩),.slice (some a) len c] w (IntOut P w g A n cap):=by
 go_enter Tryz.func107,Tryz.ntmps107
 go_wp2_with (go_at_call 44;refine(below_any g A n cap (len:Int) (by omega) _ hc).mono ?_;rintro e w' ⟨x,hx0,hx1,hx2,rfl,hc1,hg1⟩;have hx3:=hx2 (by omega);clear hx1 hx2;obtain⟨v,hv,hcv⟩:=hi.2 x.toNat (by omega);have hcv':=far_cell hg1 hcv (by rw [add_block];exact hi.1);clear hcv)
 go_ret
 exact⟨v,hv,rfl,hc1,hg1⟩
theorem str_any (P:ByteArray→Prop)(g:Nat)(A:Option Addr)(n cap:Nat)(a:Addr)(len c:Nat)(h0:0<len)(hl:len≤9223372036854775807)(w:World)(hi:StrsAt P w g a len)(hc:Cur w g A n cap):
  Calls Tryz.prog 45 #[.pointer (some ⟨g,0,none⟩),.slice (some a) len c] w (StrOut P w g A n cap):=by
 go_enter Tryz.func45,Tryz.ntmps45
 go_wp2_with (go_at_call 44;refine(below_any g A n cap (len:Int) (by omega) _ hc).mono ?_;rintro e w' ⟨x,hx0,hx1,hx2,rfl,hc1,hg1⟩;have hx3:=hx2 (by omega);clear hx1 hx2;obtain⟨v,hv,hcv⟩:=hi.2 x.toNat (by omega);have hcv':=far_cell hg1 hcv (by rw [add_block];exact hi.1);clear hcv)
 go_ret
 exact⟨v,hv,rfl,hc1,hg1⟩
def Src (w:World)(A:Option Addr)(n:Nat):Prop:=
 n≤9223372036854775807∧∀j,j<n→∃(a:Addr) (x:Int),A=some a∧a.block<w.heap.size∧0≤x∧x≤255∧w.cell? (a.add j)=some (.int .u8 x)
def NewOut (w:World)(A:Option Addr)(n cap:Nat)(e:Ending)(w':World):Prop:=
 ∃g:Nat,e=.returned (.pointer (some ⟨g,0,none⟩))∧w.heap.size≤g∧Cur w' g A n cap∧Below w.heap.size w w'
theorem new_end {A:Option Addr}{n cap:Nat}{w:World}{y:Int}(hn:n≤9223372036854775807)(hs:∀j,j<n→∃(a:Addr) (x:Int),A=some a∧a.block<w.heap.size∧0≤x∧x≤255∧w.cell? (a.add j)=some (.int .u8 x)):
  NewOut w A n cap (.returned (.pointer (some ⟨w.heap.size,0,none⟩))) (w.alloc (.cells #[.slice A n cap,.int .i64 0,.int .i64 y] 82)):=
 ⟨w.heap.size,rfl,Nat.le_refl _,⟨0,y,hn,Nat.zero_le _,heap_alloc_new w _,fun j hj=>by
  obtain⟨a,x,h1,h2,h3,h4,h5⟩:=hs j hj
  exact⟨a,x,h1,by omega,h3,h4,by rw [World.cell?_alloc_lt w _ _ (by rw [add_block];exact h2)];exact h5⟩⟩,(Below.refl _ _).alloc (Nat.le_refl _) _⟩
theorem new_any (A:Option Addr)(n cap:Nat)(w:World)(hs:Src w A n):
  Calls Tryz.prog 16 #[.slice A n cap] w (NewOut w A n cap):=by
 obtain⟨hn,hsrc⟩:=hs
 go_enter Tryz.func16,Tryz.ntmps16
 go_wp2
 go_loop [3,4] (fun h i=>∃(k:Nat) (y:Int),k≤n∧i=.int .i64 k∧h=.int .i64 y) (fun _ i=>n-(intOf i).toNat)
 case atStart=>exact⟨0,_,by omega,rfl,rfl⟩
 case round=>
  obtain⟨k,y,hk,rfl,rfl⟩:=hrel
  by_cases hlt:k<n
  ·obtain⟨a,x,rfl,hab,hx0,hx1,hcell⟩:=hsrc k hlt
   by_cases h4:(k:Int)<4000
   ·go_wp2
    go_round
    case rel=>exact⟨k+1,_,by omega,by go_num,rfl⟩
    case measure=>simp [intOf];omega
   ·go_wp2
    go_ret
    exact new_end hn hsrc
  ·go_wp2
   go_ret
   exact new_end hn hsrc
end
section
open Go.RowKit Go.ChangeShapes Go.WideShapes Go.ChangeAt

def isI64 (p:Int→Bool):Value→Bool
 | .int .i64 v=>p v
 | _=>false
def isStr (p:ByteArray→Bool):Value→Bool
 | .string v=>p v
 | _=>false
theorem isI64_ex {p:Int→Bool}{u:Value}(h:isI64 p u=true):∃v,p v=true∧u=.int .i64 v:=by
 unfold isI64 at h;split at h
 ·exact⟨_,h,rfl⟩
 ·cases h
theorem isStr_ex {p:ByteArray→Bool}{u:Value}(h:isStr p u=true):∃v,p v=true∧u=.string v:=by
 unfold isStr at h;split at h
 ·exact⟨_,h,rfl⟩
 ·cases h
theorem new_cell (w:World)(cs:Array Value)(T:TypeId)(j:Nat):(w.alloc (.cells cs T)).cell? ((⟨w.heap.size,0,none⟩:Addr).add j)=cs[j]? :=by
 have e:(⟨w.heap.size,0,none⟩:Addr).add j=⟨w.heap.size,j,none⟩:=by
  unfold Addr.add;split
  ·subst_vars;rfl
  ·simp
 rw [e,cell_of_row _ w.heap.size j cs T (0,0) (heap_alloc_new w _)]
theorem new_ints {w:World}{g:Nat}{cs:Array Value}{T:TypeId}{len:Nat}(p:Int→Bool)(hl:len≤cs.size)(h:cs.toList.all (isI64 p)=true)(hg:g<w.heap.size):
  IntsAt (fun v=>p v=true) (w.alloc (.cells cs T)) g ⟨w.heap.size,0,none⟩ len:=by
 refine⟨by show w.heap.size≠g;omega,fun j hj=>?_⟩
 rw [new_cell,Array.getElem?_eq_getElem (by omega)]
 obtain⟨v,hv,e⟩:=isI64_ex (List.all_eq_true.1 h cs[j] (by simp))
 exact⟨v,hv,by rw [e]⟩
theorem new_strs {w:World}{g:Nat}{cs:Array Value}{T:TypeId}{len:Nat}(p:ByteArray→Bool)(hl:len≤cs.size)(h:cs.toList.all (isStr p)=true)(hg:g<w.heap.size):
  StrsAt (fun v=>p v=true) (w.alloc (.cells cs T)) g ⟨w.heap.size,0,none⟩ len:=by
 refine⟨by show w.heap.size≠g;omega,fun j hj=>?_⟩
 rw [new_cell,Array.getElem?_eq_getElem (by omega)]
 obtain⟨v,hv,e⟩:=isStr_ex (List.all_eq_true.1 h cs[j] (by simp))
 exact⟨v,hv,by rw [e]⟩
theorem CurI.alloc {w:World}{g:Nat}{A:Option Addr}{n cap i:Nat}{h:Int}(c:CurI w g A n cap i h)(o:Obj):CurI (w.alloc o) g A n cap i h:=
 ⟨c.len,c.at_,(Below.heap_alloc w o g c.lt).trans c.blk,fun j hj=>by
  obtain⟨a,x,h1,h2,h3,h4,h5⟩:=c.bytes j hj
  have hlt:(a.add j).block<w.heap.size:=by
   rcases Nat.lt_or_ge (a.add j).block w.heap.size with hlt|hge
   ·exact hlt
   ·unfold World.cell? at h5;rw [Array.getElem?_eq_none hge]at h5;cases h5
  exact⟨a,x,h1,h2,h3,h4,by rw [World.cell?_alloc_lt w _ _ hlt];exact h5⟩⟩
theorem Cur.alloc {w:World}{g:Nat}{A:Option Addr}{n cap:Nat}(c:Cur w g A n cap)(o:Obj):Cur (w.alloc o) g A n cap:=by
 obtain⟨i,h,c⟩:=c;exact⟨i,h,c.alloc o⟩
theorem Cur.lt {w:World}{g:Nat}{A:Option Addr}{n cap:Nat}(c:Cur w g A n cap):g<w.heap.size:=by
 obtain⟨i,h,c⟩:=c;exact c.lt
theorem byG_alloc {a w:World}{row:Option Nat}(h:a.grownBy w row)(o:Obj):a.grownBy (w.alloc o) row:=
 ⟨h.os,h.tape,h.output,Nat.le_trans h.size (by simp),fun i hi hne=>(Below.heap_alloc w o i (Nat.lt_of_lt_of_le hi h.size)).trans (h.block i hi hne)⟩
theorem below_new {w w1 w2:World}{g:Nat}(hb:Below w.heap.size w w1)(hg:w.heap.size≤g)(h:w1.grownBy w2 (some g)):Below w.heap.size w w2:=
 hb.grown h hb.size (fun k e=>by injection e with e;omega)
theorem CurI.below {w w':World}{g:Nat}{A:Option Addr}{n cap i:Nat}{h:Int}(c:CurI w g A n cap i h)(hb:Below w.heap.size w w'):CurI w' g A n cap i h:=
 ⟨c.len,c.at_,(hb.block g c.lt).trans c.blk,fun j hj=>by
  obtain⟨a,x,h1,h2,h3,h4,h5⟩:=c.bytes j hj
  have hlt:(a.add j).block<w.heap.size:=by
   rcases Nat.lt_or_ge (a.add j).block w.heap.size with hlt|hge
   ·exact hlt
   ·unfold World.cell? at h5;rw [Array.getElem?_eq_none hge]at h5;cases h5
  exact⟨a,x,h1,h2,h3,h4,by rw [hb.cell hlt];exact h5⟩⟩
theorem Cur.below {w w':World}{g:Nat}{A:Option Addr}{n cap:Nat}(c:Cur w g A n cap)(hb:Below w.heap.size w w'):Cur w' g A n cap:=by
 obtain⟨i,h,c⟩:=c;exact⟨i,h,c.below hb⟩
theorem byG_below {a w:World}(h:Below a.heap.size a w)(row:Option Nat):a.grownBy w row:=⟨h.os,h.tape,h.output,h.size,fun i hi _=>h.block i hi⟩
def small (s:ByteArray):Bool:=decide (s.size≤60)
theorem src_below {w w':World}{A:Option Addr}{n:Nat}(h:Src w A n)(hb:Below w.heap.size w w'):Src w' A n:=
 ⟨h.1,fun j hj=>by
  obtain⟨a,x,h1,h2,h3,h4,h5⟩:=h.2 j hj
  exact⟨a,x,h1,Nat.lt_of_lt_of_le h2 hb.size,h3,h4,by rw [hb.cell (by rw [add_block];exact h2)];exact h5⟩⟩
theorem CurI.grown {w w':World}{g r:Nat}{A:Option Addr}{n cap i:Nat}{h:Int}(c:CurI w g A n cap i h)(hg:w.grownBy w' (some r))(hr:g≠r)(hA:0<n→∀a,A=some a→a.block≠r):CurI w' g A n cap i h:=
 ⟨c.len,c.at_,(hg.block g c.lt (fun e=>hr (Option.some.inj e))).trans c.blk,fun j hj=>by
  obtain⟨a,x,h1,h2,h3,h4,h5⟩:=c.bytes j hj
  have hlt:(a.add j).block<w.heap.size:=by
   rcases Nat.lt_or_ge (a.add j).block w.heap.size with hlt|hge
   ·exact hlt
   ·unfold World.cell? at h5;rw [Array.getElem?_eq_none hge]at h5;cases h5
  exact⟨a,x,h1,h2,h3,h4,by rw [World.cell?_of_block (hg.block _ hlt (fun e=>hA (by omega) a h1 (by rw [add_block]at e;exact Option.some.inj e)))];exact h5⟩⟩
theorem Cur.grown {w w':World}{g r:Nat}{A:Option Addr}{n cap:Nat}(c:Cur w g A n cap)(hg:w.grownBy w' (some r))(hr:g≠r)(hA:0<n→∀a,A=some a→a.block≠r):Cur w' g A n cap:=by
 obtain⟨i,h,c⟩:=c;exact⟨i,h,c.grown hg hr hA⟩
theorem big_any (A:Option Addr)(n cap:Nat)(w:World):
  Calls Tryz.prog 4 #[.slice A n cap] w fun e w'=>e=.returned (.bool (decide (4096<n)))∧w=w':=by
 by_cases h:(4096:Int)<(n:Int)
 all_goals
  go_enter Tryz.func4,Tryz.ntmps4
  go_wp2
  go_ret
  exact⟨ret_bool (by simp;omega),rfl⟩
end
section
open Go.RowKit

def inI64 (v:Int):Bool:=decide (-9223372036854775808≤v)&&decide (v≤9223372036854775807)
def P64 (v:Int):Prop:=inI64 v=true
theorem P64.bd {v:Int}(h:P64 v):-9223372036854775808≤v∧v≤9223372036854775807:=by simpa [P64,inI64]using h
theorem P64.mk {v:Int}(h:-9223372036854775808≤v∧v≤9223372036854775807):P64 v:=by simpa [P64,inI64]using h
theorem odd_any (g:Nat)(A:Option Addr)(n cap:Nat)(w:World)(hc:Cur w g A n cap):
  Calls Tryz.prog 113 #[.pointer (some ⟨g,0,none⟩)] w (IntOut P64 w g A n cap):=by
 go_enter Tryz.func113,Tryz.ntmps113
 go_wp2_with (go_at_call 107;refine(int_any P64 g A n cap ⟨w.heap.size,0,none⟩ 14 14 (by omega) (by omega) _ (new_ints inI64 (by decide) (by decide) hc.lt) (hc.alloc _)).mono ?_;rintro e w' ⟨v,hv,rfl,hc1,hg1⟩)
 go_ret
 exact⟨v,hv,rfl,hc1,(byG_alloc (byG_refl w _) _).trans hg1⟩
theorem num_any (g:Nat)(A:Option Addr)(n cap:Nat)(w:World)(hc:Cur w g A n cap):
  Calls Tryz.prog 89 #[.pointer (some ⟨g,0,none⟩)] w (IntOut P64 w g A n cap):=by
 have hG:=byG_refl w (some g)
 go_enter Tryz.func89,Tryz.ntmps89
 go_wp2_with (first
  |(go_at_call 44;((with_reducible refine(below_any g A n cap _ (by omega) _ (by assumption)).mono ?_);rintro e w1 ⟨x,hx0,hx1,hx2,rfl,hc1,hg1⟩;have hx3:=hx2 (by omega);clear hx1 hx2;have hG:=hG.trans hg1;clear hg1))
  |(go_at_call 113;((with_reducible refine(odd_any g A n cap _ (by assumption)).mono ?_);rintro e w2 ⟨v,hv,rfl,hc2,hg2⟩;have hG:=hG.trans hg2;clear hg2))
  |(go_at_call 107;((refine(int_any P64 g A n cap ⟨w1.heap.size,0,none⟩ 4 4 (by omega) (by omega) _ (new_ints inI64 (by decide) (by decide) hc1.lt) (hc1.alloc _)).mono ?_);rintro e w2 ⟨v,hv,rfl,hc2,hg2⟩;have hG:=(byG_alloc hG _).trans hg2;clear hg2)))
 all_goals go_ret
 ·exact⟨_,by assumption,rfl,by assumption,hG⟩
 ·exact⟨-x,P64.mk (by omega),rfl,by assumption,hG⟩
 ·exact⟨_,by assumption,rfl,by assumption,hG⟩
 ·exact⟨x,P64.mk (by omega),rfl,by assumption,hG⟩
theorem fmt_small {v:Int}(h:-9223372036854775808≤v∧v≤9223372036854775807):small (NumP.fmtS v)=true:=by
 have:=NumP.fmtL_length h.1 h.2
 have e:(NumP.fmtS v).size=(NumP.fmtL v).length:=by simp [NumP.fmtS,ByteArray.size]
 simp [small,e];omega
theorem form_any (g:Nat)(A:Option Addr)(n cap:Nat)(w:World)(hc:Cur w g A n cap):
  Calls Tryz.prog 46 #[.pointer (some ⟨g,0,none⟩)] w (StrOut (fun s=>small s=true) w g A n cap):=by
 have hG:=byG_refl w (some g)
 go_enter Tryz.func46,Tryz.ntmps46
 go_wp2_with (first
  |(go_at_call 73;((with_reducible refine(once_any g A n cap _ (by omega) _ (by assumption)).mono ?_);rintro e w1 ⟨b,rfl,hc1,hg1⟩;have hG:=hG.trans hg1;clear hg1))
  |(go_at_call 89;((with_reducible refine(num_any _ _ _ _ _ hc1).mono ?_);rintro e w2 ⟨v,hv,rfl,hc2,hg2⟩;have hG:=hG.trans hg2;clear hg2;have hv':=hv.bd))
  |(go_at_call 26;((with_reducible refine(sFmt_any v hv'.1 hv'.2 _).mono ?_);rintro e w3 ⟨rfl,hb3⟩))
  |(go_at_call 45;((refine(str_any (fun s=>small s=true) g A n cap ⟨w1.heap.size,0,none⟩ 17 17 (by omega) (by omega) _ (new_strs small (by decide) (by decide) hc1.lt) (hc1.alloc _)).mono ?_);rintro e w2 ⟨v,hv,rfl,hc2,hg2⟩;have hG:=(byG_alloc hG _).trans hg2;clear hg2)))
 ·go_ret
  exact⟨_,by assumption,rfl,by assumption,hG⟩
 ·go_ret
  exact⟨_,fmt_small hv',rfl,hc2.below hb3,hG.trans (byG_below hb3 _)⟩
end
section
open Go.RowKit

theorem text_any (g:Nat)(A:Option Addr)(n cap:Nat)(w:World)(hc:Cur w g A n cap):
  Calls Tryz.prog 48 #[.pointer (some ⟨g,0,none⟩)] w (StrOut (fun s=>small s=true) w g A n cap):=by
 go_enter Tryz.func48,Tryz.ntmps48
 go_wp2_with (go_at_call 45;refine(str_any (fun s=>small s=true) g A n cap ⟨w.heap.size,0,none⟩ 14 14 (by omega) (by omega) _ (new_strs small (by decide) (by decide) hc.lt) (hc.alloc _)).mono ?_;rintro e w' ⟨v,hv,rfl,hc1,hg1⟩)
 go_ret
 exact⟨v,hv,rfl,hc1,(byG_alloc (byG_refl w _) _).trans hg1⟩
end
end Go.Proofs.YtecladbckadijaaGreatDoor
