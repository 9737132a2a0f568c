/- MERGED for a claim. -/
import Derived.Test.YtecladbckadijaaGreatDoorTabS
import Derived.Test.YtecladbckadijaaGreatDoorParX
set_option linter.unusedVariables false
set_option linter.unusedSimpArgs false
set_option maxRecDepth 100000
set_option maxHeartbeats 16000000
namespace Go.Proofs.YtecladbckadijaaGreatDoor
open Go.Lib (hid)
section
open Go.RowKit NumP

def wordK (s:ByteArray):Int:=if s=⟨#[105,110,116]⟩then 1 else if s=⟨#[116,101,120,116]⟩then 2 else if s=⟨#[98,111,111,108]⟩then 3 else if s=⟨#[101,110,117,109]⟩then 4 else if s=⟨#[114,101,102]⟩then 5 else if s=⟨#[102,108,97,103]⟩then 6 else 0
def headK:List Tok→Int
 | []=>0
 | x::_=>if x.k=1 then wordK x.t else 0
def namesT:List Tok→List ByteArray
 | []=>[]
 | x::r=>if x.k=1 then x.t::namesT r else []
def textT:List Tok→Option ByteArray
 | []=>none
 | x::_=>if x.k=3∧x.t.size≠0 then some x.t else none
def txS (o:Option ByteArray):ByteArray:=o.getD ⟨#[]⟩
def txN (o:Option ByteArray):Nat:=if o.isSome=true then 1 else 0
def rsL (res:Option (List Rg×Nat)):List Rg:=match res with|some (R,_)=>R|none=>[]
def rsN (res:Option (List Rg×Nat)):Nat:=match res with|some (_,n)=>n|none=>0
def bodyT (k:Int)(T:List Tok)(res:Option (List Rg×Nat)):Ty×Nat:=
 if k=1 then(⟨1,rsL res,[],⟨#[]⟩,⟨#[]⟩⟩,rsN res)
 else if k=2 then(⟨2,rsL res,[],txS (textT (T.drop (rsN res))),⟨#[]⟩⟩,rsN res+txN (textT (T.drop (rsN res))))
 else if k=4 then(⟨4,[],namesT T,⟨#[]⟩,⟨#[]⟩⟩,(namesT T).length)
 else if k=5 then(⟨5,[],[],⟨#[]⟩,txS (textT T)⟩,txN (textT T))
 else(⟨k,[],[],⟨#[]⟩,⟨#[]⟩⟩,0)
def tyT (T:List Tok)(res:Option (List Rg×Nat)):Ty×Nat:=
 if headK T=0 then(⟨0,[],[],⟨#[]⟩,⟨#[]⟩⟩,0)else((bodyT (headK T) (T.drop 1) res).1,1+(bodyT (headK T) (T.drop 1) res).2)
noncomputable def parTy (e:Option Nat)(T:List Tok)(res:Option (List Rg×Nat)):Option Ty:=
 match e with
 | none=>if (tyT T res).2=T.length∧isTyB (tyT T res).1=true then some (tyT T res).1 else none
 | some _=>none
theorem namesT_len (T:List Tok):(namesT T).length≤T.length:=by
 induction T with
 | nil=>exact Nat.le_refl _
 | cons x r ih=>unfold namesT;split<;>simp<;>omega
theorem namesT_mem {T:List Tok}:∀s∈namesT T,∃x∈T,x.t=s:=by
 induction T with
 | nil=>intro s h;simp [namesT]at h
 | cons x r ih =>
  intro s h
  unfold namesT at h
  split at h
  ·rcases List.mem_cons.1 h with rfl|h
   ·exact⟨x,by simp,rfl⟩
   ·obtain⟨y,h1,h2⟩:=ih s h
    exact⟨y,List.mem_cons_of_mem _ h1,h2⟩
  ·simp at h
theorem namesT_take {T:List Tok}{k:Nat}(h:∀j (hj:j<T.length),j<k→T[j].k=1)(hk:k≤T.length)(hend:k=T.length∨∃(hk:k<T.length),¬T[k].k=1):namesT T=(T.take k).map (·.t):=by
 induction T generalizing k with
 | nil=>simp [namesT]
 | cons x r ih =>
  cases k with
  | zero =>
   rcases hend with h0|⟨_,h0⟩
   ·simp at h0
   ·have h0:¬x.k=1:=h0
    unfold namesT;rw [if_neg h0];rfl
  | succ k =>
   have h0:x.k=1:=h 0 (by simp) (by omega)
   unfold namesT
   rw [if_pos h0,List.take_succ_cons,List.map_cons]
   congr 1
   refine ih (fun j hj hjk=>h (j+1) (by simpa using hj) (by omega)) (by simpa using hk) ?_
   rcases hend with h1|⟨h1,h2⟩
   ·exact .inl (by simpa using h1)
   ·exact .inr ⟨by simpa using h1,h2⟩
theorem names_next {T:List Tok}{k:Nat}(hk:k<T.length):(T.take (k+1)).map (·.t)=(T.take k).map (·.t)++ [T[k].t]:=by
 rw [List.take_succ_eq_append_getElem hk,List.map_append];rfl
theorem textT_none {x:Tok}{r:List Tok}(h:¬x.k=3):textT (x::r)=none:=if_neg fun e=>h e.1
theorem textT_empty {x:Tok}{r:List Tok}(h:x.t.size=0):textT (x::r)=none:=if_neg fun e=>e.2 h
theorem textT_some {x:Tok}{r:List Tok}(h:x.k=3)(h':x.t.size≠0):textT (x::r)=some x.t:=if_pos ⟨h,h'⟩
theorem tx_none {o:Option ByteArray}(h:o=none):txS o=⟨#[]⟩∧txN o=0:=by subst h;exact⟨rfl,rfl⟩
theorem tx_some {o:Option ByteArray}{s:ByteArray}(h:o=some s):txS o=s∧txN o=1:=by subst h;exact⟨rfl,rfl⟩
theorem iFil_any (A:Option Addr)(n cap:Nat)(l:List Tok)(w:World)(hv:HasT w (.slice A n cap) l):
  Calls Tryz.prog 66 #[.slice A n cap] w fun e w'=>e=.returned (.tuple #[.string (txS (textT l)),.int .i64 (txN (textT l))])∧w=w':=by
 obtain⟨hn,hn'⟩:=hv.size
 match l with
 | [] =>
  obtain rfl:n=0:=by simpa using hn
  clear hv hn
  go_enter Tryz.func66,Tryz.ntmps66
  go_wp2
  go_ret2
  exact⟨rfl,rfl⟩
 | x :: r =>
  obtain⟨a,rfl,hn2,hb,c0,c1⟩:=hv.head
  have h0:(0:Int)<(n:Int):=by omega
  have hne:((n:Int)==0)=false:=by simp;omega
  have hne2:(n==0)=false:=by simp;omega
  have hnn:¬n=0:=by omega
  clear hn hn2 hv
  by_cases hk:x.k=3
  ·have hk':(x.k != 3)=false:=by simpa using hk
   rcases em_cases x.t with he|⟨e1,e2,e3,e4⟩
   ·obtain⟨q1,q2⟩:=tx_none (textT_empty (x:=x) (r:=r) (by rw [he];rfl))
    rw [q1,q2]
    rw [he]at c1
    clear hk
    go_enter Tryz.func66,Tryz.ntmps66
    go_wp2
    go_ret2
    exact⟨rfl,rfl⟩
   ·obtain⟨q1,q2⟩:=tx_some (textT_some (x:=x) (r:=r) hk (by intro h;unfold emB at e4;rw [h]at e4;cases e4))
    rw [q1,q2]
    clear hk
    go_enter Tryz.func66,Tryz.ntmps66
    go_wp2
    go_ret2
    exact⟨rfl,rfl⟩
  ·have hk':(x.k != 3)=true:=by simpa using hk
   obtain⟨q1,q2⟩:=tx_none (textT_none (x:=x) (r:=r) hk)
   rw [q1,q2]
   clear hk
   go_enter Tryz.func66,Tryz.ntmps66
   go_wp2
   go_ret2
   exact⟨rfl,rfl⟩
theorem iNms_any (A:Option Addr)(n cap:Nat)(l:List Tok)(w:World)(hv:HasT w (.slice A n cap) l)(hnb:n≤1048576):
  Calls Tryz.prog 67 #[.slice A n cap] w fun e w'=>(∃v',e=.returned (.tuple #[v',.int .i64 ((namesT l).length:Nat)])∧Row w.heap.size w' v' (namesT l))∧Below w.heap.size w w':=by
 obtain⟨hn,hn'⟩:=hv.size
 have hc:∀i (h:i<l.length),∃a,A=some a∧a.block<w.heap.size∧∀j x,(Tok.enc l[i])[j]? =some x→w.cell? ((a.add (i*3)).add j)=some x:=by
  obtain⟨A',cap',e0,_,hc⟩:=hv
  injection e0 with e1 e2 e3
  subst e1
  exact hc
 have HN:=hid hn
 have HEND:=hid (fun(k:Nat)=>namesT_take (T:=l) (k:=k))
 clear hv hn
 go_enter Tryz.func67,Tryz.ntmps67
 go_wp2
 go_loopw [4,10] (fun v i wr=>∃(k g c:Nat),k≤n∧i=.int .i64 k∧v=.slice (some ⟨g,0,none⟩) k c∧Row w.heap.size wr (.slice (some ⟨g,0,none⟩) k c) ((l.take k).map (·.t))∧Below w.heap.size w wr∧Hid (∀j (hj:j<l.length),j<k→l[j].k=1)) (fun _ i _=>n-(intOf i).toNat)
 case atStart=>exact⟨0,w.heap.size,0,Nat.zero_le _,rfl,rfl,row_empty (heap_alloc_new w _) (Nat.le_refl _),below_al (Below.refl _ _) _,hid (fun j _ h=>by omega)⟩
 case round=>
  obtain⟨k,g,c,hk,rfl,rfl,hrow,hbel,HALL⟩:=hrel
  by_cases hlt:k<n
  ·have hlk:k<l.length:=by rw [←HN.out];exact hlt
   obtain⟨a,rfl,hab,hx⟩:=HasT.tk hc k hlk
   have HNX:=hid (names_next hlk)
   obtain⟨c0,c1,c2⟩:=hx.below hbel hab
   have HKK:=hid (fun(h:l[k].k=1) j (hj:j<l.length) (hjk:j<k+1)=>(show l[j].k=1 by
    by_cases e:j=k
    ·subst e;exact h
    ·exact HALL.out j hj (by omega)))
   have HNO:=hid (fun(h:¬l[k].k=1)=>HEND.out k HALL.out (Nat.le_of_lt hlk) (.inr ⟨hlk,h⟩))
   have hgB:=(hrow.lt rfl).1
   generalize l[k]=x at*
   clear hx
   by_cases hk1:x.k=1
   ·have hk':(x.k != 1)=false:=by simpa using hk1
    have HK2:=hid (HKK.out hk1)
    clear hk1
    have hrow1:=hrow.alloc (.cells #[.int .i64 x.k,.string x.t,.int .i64 x.p] 98)
    have hbel1:=below_al hbel (.cells #[.int .i64 x.k,.string x.t,.int .i64 x.p] 98)
    go_wp2_with (at_builtin;refine wpList_row_append rfl _ _ rfl w.heap.size g k c _ rfl hrow1 x.t (by show Value.slice (some ⟨wr.heap.size+1,0,none⟩) 1 1=_;simp) (by omega) hbel1.size (k+1) rfl ?_;intro g' c'' w2 hrow2 hg2)
    go_roundw
    case rel=>exact⟨k+1,g',c'',by omega,by go_num,rfl,by rw [HNX.out];exact hrow2,(below_al (below_al hbel _) _).grown hg2 (below_al (below_al hbel _) _).size (fun _ h=>by cases h;exact hgB),HK2⟩
    case measure=>simp [intOf];omega
   ·have hk':(x.k != 1)=true:=by simpa using hk1
    have HE:=hid (HNO.out hk1)
    have HLEN:=hid hrow.cap'
    clear hk1
    go_wp2
    go_ret2
    rw [HE.out,←HLEN.out]
    exact⟨⟨_,rfl,hrow.alloc _⟩,below_al hbel _⟩
  ·obtain rfl:k=n:=by omega
   have HE:=hid (HEND.out k HALL.out (by rw [←HN.out];exact Nat.le_refl _) (.inl HN.out))
   have HLEN:=hid hrow.cap'
   clear hc
   go_wp2
   go_ret2
   rw [HE.out,←HLEN.out]
   exact⟨⟨_,rfl,hrow⟩,hbel⟩
theorem ix_any {k:Nat}{ws:List UInt8}(h:typeWs[k]? =some ws)(W:World):(Instr.index 71 (.agg #[.string ⟨#[]⟩,.string ⟨#[105,110,116]⟩,.string ⟨#[116,101,120,116]⟩,.string ⟨#[98,111,111,108]⟩,.string ⟨#[101,110,117,109]⟩,.string ⟨#[114,101,102]⟩,.string ⟨#[102,108,97,103]⟩]) (.int .i64 k)).run Tryz.prog W=.ok (.string ⟨ws.toArray⟩) W:=by
 match k,h with
 | 0,h=>cases h;rfl
 | 1,h=>cases h;rfl
 | 2,h=>cases h;rfl
 | 3,h=>cases h;rfl
 | 4,h=>cases h;rfl
 | 5,h=>cases h;rfl
 | 6,h=>cases h;rfl
 | k+7,h=>simp [typeWs]at h
theorem word_at {k:Nat}{ws:List UInt8}(h:typeWs[k]? =some ws):wordK ⟨ws.toArray⟩=k:=by
 match k,h with
 | 0,h=>cases h;rfl
 | 1,h=>cases h;rfl
 | 2,h=>cases h;rfl
 | 3,h=>cases h;rfl
 | 4,h=>cases h;rfl
 | 5,h=>cases h;rfl
 | 6,h=>cases h;rfl
 | k+7,h=>simp [typeWs]at h
theorem iWord_any (A:Option Addr)(n cap:Nat)(l:List Tok)(w:World)(hv:HasT w (.slice A n cap) l)
  (hT:∀i s,i<7→typeWs[i]? =some s→w.cell? ⟨0,i,none⟩=some (.string ⟨s.toArray⟩)):
  Calls Tryz.prog 64 #[.slice A n cap] w fun e w'=>e=.returned (.int .i64 (headK l))∧w=w':=by
 obtain⟨hn,hn'⟩:=hv.size
 match l with
 | [] =>
  obtain rfl:n=0:=by simpa using hn
  clear hv hn hT
  go_enter Tryz.func64,Tryz.ntmps64
  go_wp2
  go_ret
  exact⟨rfl,rfl⟩
 | x :: r =>
  obtain⟨a,rfl,hn2,hb,c0,c1⟩:=hv.head
  have h0:(0:Int)<(n:Int):=by omega
  have hne:((n:Int)==0)=false:=by simp;omega
  have hne2:(n==0)=false:=by simp;omega
  have hnn:¬n=0:=by omega
  clear hn hn2 hv
  have t0:=hT 0 _ (by omega) rfl
  have t1:=hT 1 _ (by omega) rfl
  have t2:=hT 2 _ (by omega) rfl
  have t3:=hT 3 _ (by omega) rfl
  have t4:=hT 4 _ (by omega) rfl
  have t5:=hT 5 _ (by omega) rfl
  have t6:=hT 6 _ (by omega) rfl
  clear hT
  by_cases hk:x.k=1
  ·have hk':(x.k != 1)=false:=by simpa using hk
   have HH:Hid (headK (x::r)=wordK x.t):=hid (if_pos hk)
   rw [HH.out]
   clear hk HH
   go_enter Tryz.func64,Tryz.ntmps64
   go_wp2
   go_loopw [16] (fun i wr=>∃(k:Nat),k≤7∧i=.int .i64 k∧wr=w∧Hid (∀j ws,j<k→typeWs[j]? =some ws→x.t≠⟨ws.toArray⟩)) (fun i _=>7-(intOf i).toNat)
   case atStart=>exact⟨0,by omega,rfl,rfl,hid (fun j ws h=>by omega)⟩
   case round=>
    obtain⟨k,hk7,rfl,rfl,HNO⟩:=hrel
    by_cases hlt:k<7
    ·obtain⟨ws,hws⟩:∃ws,typeWs[k]? =some ws:=⟨_,List.getElem?_eq_getElem hlt⟩
     have hix:=fun W=>ix_any hws W
     by_cases hx:x.t=⟨ws.toArray⟩
     ·have HW:Hid (wordK x.t=k):=hid (by rw [hx];exact word_at hws)
      have he:(ws==x.t.toList)=true:=by rw [hx,ByteArray.toList_eq];simp
      clear hx hws
      go_wp2
      go_ret
      exact⟨by rw [HW.out];rfl,rfl⟩
     ·have he:(ws==x.t.toList)=false:=by
       simp only [beq_eq_false_iff_ne,ne_eq]
       intro e
       exact hx (by rw [e,ByteArray.toList_eq])
      have HN2:Hid (∀j ws,j<k+1→typeWs[j]? =some ws→x.t≠⟨ws.toArray⟩):=hid (fun j ws' hj hw=>by
       by_cases e:j=k
       ·subst e;rw [hws]at hw;cases hw;exact hx
       ·exact HNO.out j ws' (by omega) hw)
      clear hx hws
      go_wp2
      go_roundw
      case rel=>exact⟨k+1,by omega,by go_num,by first|rfl|trivial,HN2⟩
      case measure=>simp [intOf];omega
    ·obtain rfl:k=7:=by omega
     have HW:Hid (wordK x.t=0):=hid (by
      unfold wordK
      rw [if_neg (HNO.out 1 _ (by omega) rfl),if_neg (HNO.out 2 _ (by omega) rfl),if_neg (HNO.out 3 _ (by omega) rfl),if_neg (HNO.out 4 _ (by omega) rfl),if_neg (HNO.out 5 _ (by omega) rfl),if_neg (HNO.out 6 _ (by omega) rfl)])
     go_wp2
     go_ret
     exact⟨by rw [HW.out];rfl,rfl⟩
  ·have hk':(x.k != 1)=true:=by simpa using hk
   rw [show headK (x::r)=0 from if_neg hk]
   clear hk
   go_enter Tryz.func64,Tryz.ntmps64
   go_wp2
   go_ret
   exact⟨rfl,rfl⟩
end
section
open Go.RowKit NumP

theorem rsU_any (a:Addr)(n cap:Nat)(T:List Tok)(w:World)(hv:HasT w (.slice (some a) n cap) T)(hc:n≤cap)(hcm:cap≤9223372036854775807)(hnb:n≤1048576)(hs:∀x∈T,x.t.size≤1048576)(res:Option (List Rg×Nat))(hr:Run T 0 [] res):
  Calls Tryz.prog 65 #[.slice (some a) n cap] w fun e w'=>∃(A:Option Addr) (m c:Nat),e=.returned (.tuple #[.slice A m c,.int .i64 (rsN res:Nat)])∧RowG w.heap.size w' (.slice A m c) (rsL res)∧Below w.heap.size w w':=by
 refine(iRs_some a n cap T w hv hc hcm hnb hs res hr).mono ?_
 rintro e w' ⟨h,hb⟩
 cases res with
 | none =>
  obtain⟨v',rfl,h⟩:=h
  obtain⟨A,c,hv,_⟩:=RowR.hasG h
  subst hv;exact⟨A,_,c,rfl,h,hb⟩
 | some p =>
  obtain⟨R,k⟩:=p
  obtain⟨v',rfl,h⟩:=h
  obtain⟨A,c,hv,_⟩:=RowR.hasG h
  subst hv;exact⟨A,_,c,rfl,h,hb⟩
theorem rsN_le {T:List Tok}{res:Option (List Rg×Nat)}(hr:Run T 0 [] res):rsN res≤T.length:=by
 match res,hr with
 | none,_=>exact Nat.zero_le _
 | some (R,k),hr=>exact(hr.bd (Nat.zero_le _) R k rfl).1
theorem tyT_0 {T:List Tok}{res:Option (List Rg×Nat)}(h:headK T=0):tyT T res=(⟨0,[],[],⟨#[]⟩,⟨#[]⟩⟩,0):=by unfold tyT;rw [if_pos h]
theorem tyT_k {T:List Tok}{res:Option (List Rg×Nat)}{k:Int}(h:headK T=k)(h0:k≠0):tyT T res=((bodyT k (T.drop 1) res).1,1+(bodyT k (T.drop 1) res).2):=by unfold tyT;rw [if_neg (by rw [h];exact h0),h]
theorem headK_range (T:List Tok):headK T=0∨headK T=1∨headK T=2∨headK T=3∨headK T=4∨headK T=5∨headK T=6:=by
 cases T with
 | nil=>exact .inl rfl
 | cons x r =>
  unfold headK wordK
  repeat' split
  all_goals simp
theorem run_loadTy {W:World}{b:Nat}{k:Int}{vr vn:Value}{pt ph:ByteArray}(h:TyBox W b k vr vn pt ph):(loadVar 27 ⟨b,0,none⟩).run Tryz.prog W=.ok (.agg #[.int .i64 k,vr,vn,.string pt,.string ph]) W:=
 run_loadVar_row W b _ 27 _ (0,0) _ h Tryz.underlying27 rfl (by kernel_rfl)
theorem TyBox.full {W:World}{b:Nat}{k k':Int}{vr vn vr' vn':Value}{pt ph pt' ph':ByteArray}(h:TyBox W b k vr vn pt ph):TyBox (((((W.setCell ⟨b,0,none⟩ (.int .i64 k')).setCell ⟨b,1,none⟩ vr').setCell ⟨b,2,none⟩ vn').setCell ⟨b,3,none⟩ (.string pt')).setCell ⟨b,4,none⟩ (.string ph')) b k' vr' vn' pt' ph':=by
 have h0:=set5 h 0 (.int .i64 k')
 have h1:=set5 h0 1 vr'
 have h2:=set5 h1 2 vn'
 have h3:=set5 h2 3 (.string pt')
 exact set5 h3 4 (.string ph')
theorem results_ty {P:Program}{fn:Func}{p u:Tmp}{ty:TypeId}(h:fn.results=#[.cell p ty,.tmp u])(tmps:Array Value)(w:World)(a:Addr)(v:Value)(hp:tmps.getD p undef=.pointer (some a))(hl:(loadVar ty a).run P w=.ok v w):
  (results fn tmps).run P w=.ok (.tuple #[v,tmps.getD u undef]) w:=by
 have hp':tmps[p]?.getD undef=.pointer (some a):=by simpa using hp
 simp only [results,h]
 simp [Sem.run_bind,Result.andThen,hp',asAddr,hl]
theorem ownTy_mk {B:Nat}{w:World}{k:Int}{vr vn:Value}{rg:List Rg}{nm:List ByteArray}{pt ph:ByteArray}(h1:RowG B w vr rg)(h2:Row B w vn nm)(hne:∀j,vr.ownBlock=some j→vn.ownBlock≠some j):OwnTy B w ⟨k,vr,vn,pt,ph⟩ ⟨k,rg,nm,pt,ph⟩:=⟨rfl,h1,h2,rfl,rfl,hne⟩
def RdV (B:Nat)(p:Ty×Nat)(e:Ending)(w':World):Prop:=∃v:TyV,e=.returned (.tuple #[v.val,.int .i64 (p.2:Nat)])∧OwnTy B w' v p.1
theorem iRdTy_any (A:Option Addr)(n cap:Nat)(T:List Tok)(w:World)(hv:HasT w (.slice A n cap) T)(hc:n≤cap)(hcm:cap≤9223372036854775807)(hnb:n≤1048576)(hs:∀x∈T,x.t.size≤1048576)(res:Option (List Rg×Nat))(hr:Run (T.drop 1) 0 [] res)
  (hT:∀i s,i<7→typeWs[i]? =some s→w.cell? ⟨0,i,none⟩=some (.string ⟨s.toArray⟩)):
  Calls Tryz.prog 32 #[.slice A n cap] w fun e w'=>RdV w.heap.size (tyT T res) e w'∧Below w.heap.size w w':=by
 have HB0:=hid (below_al (Below.refl w.heap.size w) (.cells #[.int .i64 0,.slice none 0 0,.slice none 0 0,.string ⟨#[]⟩,.string ⟨#[]⟩] 27))
 have HWD:Hid (∀W,Below w.heap.size w W→Calls Tryz.prog 64 #[.slice A n cap] W fun e w'=>e=.returned (.int .i64 (headK T))∧Below W.heap.size W w'):=hid (fun W (hb:Below w.heap.size w W)=>(iWord_any A n cap T W (HasR.below hv hb) (fun i s hi hs=>(hb.cell (lt_of_cell (hT i s hi hs))).trans (hT i s hi hs))).mono fun e w' h=>⟨h.1,by rw [←h.2];exact Below.refl _ _⟩)
 have HX0:Hid (∀W,Below (w.alloc (.cells #[.int .i64 0,.slice none 0 0,.slice none 0 0,.string ⟨#[]⟩,.string ⟨#[]⟩] 27)).heap.size (w.alloc (.cells #[.int .i64 0,.slice none 0 0,.slice none 0 0,.string ⟨#[]⟩,.string ⟨#[]⟩] 27)) W→TyBox W w.heap.size 0 (.slice none 0 0) (.slice none 0 0) ⟨#[]⟩ ⟨#[]⟩):=hid fun W hb=>(hb.block _ (by simp)).trans (heap_alloc_new w _)
 have HK0:=hid (fun(h:headK T=0)=>tyT_0 (res:=res) h)
 have HKK:=hid (fun(k:Int) (h:headK T=k) (h0:k≠0)=>tyT_k (res:=res) h h0)
 have HQ:=hid (rsN_le hr)
 have hRG:=headK_range T
 obtain⟨hnT,hn'⟩:=hv.size
 have HNE:Hid (headK T≠0→∃a,A=some a∧1≤n):=hid fun h=>by
  match T,hv,h,hnT with
  | [],_,h,_=>exact absurd rfl h
  | x::r,hv,_,hnT=>obtain⟨a,h1,h2,_⟩:=hv.head;exact⟨a,h1,by omega⟩
 obtain⟨HK,hHK⟩:∃k,k=headK T:=⟨_,rfl⟩
 have HHK:=hid hHK
 rw [←hHK]at hRG HWD HK0 HKK HNE
 have HN:=hid hnT
 have HV:=hid (fun a (e:A=some a) k (hk:k≤n) (h1:¬cap=k) W (hb:Below w.heap.size w W)=>(show HasT W (.slice (some (a.add (k*3))) (n-k) (cap-k)) (T.drop k)from HasT.cutN (by rw [←e];exact HasR.below hv hb) hc hk h1))
 have HE:=hid (fun a (e:A=some a) k (hk:k≤n) (h1:cap=k) W (hb:Below w.heap.size w W)=>(show HasT W (.slice (some a) (n-k) (cap-k)) (T.drop k)from HasT.cutE (by rw [←e];exact HasR.below hv hb) hc hk h1))
 have HS:Hid (∀k,∀x∈T.drop k,x.t.size≤1048576):=hid fun k x hx=>hs x (List.mem_of_mem_drop hx)
 have HR:=hid hr
 obtain⟨Z,hZ⟩:∃Z,Z=tyT T res:=⟨_,rfl⟩
 rw [←hZ]at HK0 HKK ⊢
 clear hv hs hr hT hnT hHK hZ
 rcases hRG with rfl|hk
 ·obtain rfl:=HK0.out rfl
  clear HK0 HKK HNE
  go_enter Tryz.func32,Tryz.ntmps32
  go_wp2_with fail
  refine(HWD.out _ HB0.out).mono ?_
  rintro e w1 ⟨rfl,hb1⟩
  have HB1:=hid (below_step HB0.out hb1)
  have HX1:=hid (HX0.out w1 hb1)
  have hlt1:w.heap.size<w1.heap.size:=HX1.out.lt
  obtain⟨⟨y0,y1,y2,y3,y4⟩,r0,r1,r2,r3,r4⟩:=five HX1.out
  clear hb1
  go_wp2
  have hfin:=TyBox.below (TyBox.full (k':=0) (vr':=.slice none 0 0) (vn':=.slice none 0 0) (pt':=⟨#[]⟩) (ph':=⟨#[]⟩) HX1.out) (below_al (Below.refl _ _) (.cells #[.int .i64 0,.slice none 0 0,.slice none 0 0,.string ⟨#[]⟩,.string ⟨#[]⟩] 27))
  refine bodyPost_ret (results_ty rfl _ _ ⟨w.heap.size,0,none⟩ _ rfl (run_loadTy hfin)) rfl ?_
  exact⟨⟨⟨0,.slice none 0 0,.slice none 0 0,⟨#[]⟩,⟨#[]⟩⟩,rfl,ownTy_mk (rowG_nil _ _) (row_nil _ _) (by simp [Value.ownBlock])⟩,below_al (below_set5 HB1.out (by omega)) _⟩
 ·obtain⟨a,rfl,hn1⟩:=HNE.out (by omega)
  have hn1i:(1:Int)≤(n:Int):=by omega
  have hc1i:(1:Int)≤(cap:Int):=by omega
  clear HK0 HNE
  by_cases hcp:cap=1
  ·obtain rfl:n=1:=by omega
   subst hcp
   have HC1:Hid (∀W,Below w.heap.size w W→HasT W (.slice (some a) 0 0) (T.drop 1)):=hid fun W hb=>HE.out a rfl 1 (by omega) rfl W hb
   have HQ0:Hid (rsN res=0):=hid (by have:=HQ.out;rw [List.length_drop,←HN.out]at this;omega)
   rcases hk with rfl|rfl|rfl|rfl|rfl|rfl
   ·have HZZ:=hid (HKK.out 1 rfl (by omega))
    clear HKK
    go_enter Tryz.func32,Tryz.ntmps32
    go_wp2_with fail
    refine(HWD.out _ HB0.out).mono ?_
    rintro e w1 ⟨rfl,hb1⟩
    have HB1:=hid (below_al (below_step HB0.out hb1) (.cells #[.int .i64 1,.slice none 0 0,.slice none 0 0,.string ⟨#[]⟩,.string ⟨#[]⟩] 27))
    have HX1:=hid (TyBox.below (HX0.out w1 hb1) (below_al (Below.refl _ _) (.cells #[.int .i64 1,.slice none 0 0,.slice none 0 0,.string ⟨#[]⟩,.string ⟨#[]⟩] 27)))
    have HY1:Hid (TyBox (w1.alloc (.cells #[.int .i64 1,.slice none 0 0,.slice none 0 0,.string ⟨#[]⟩,.string ⟨#[]⟩] 27)) w1.heap.size 1 (.slice none 0 0) (.slice none 0 0) ⟨#[]⟩ ⟨#[]⟩):=hid (heap_alloc_new w1 _)
    have hlt1:w.heap.size<w1.heap.size:=(HX0.out w1 hb1).lt
    have HXR:=hid (HX0.out w1 hb1)
    have HBW:=hid (below_step HB0.out hb1)
    clear hb1
    have hszb:(w1.alloc (.cells #[.int .i64 1,.slice none 0 0,.slice none 0 0,.string ⟨#[]⟩,.string ⟨#[]⟩] 27)).heap.size=w1.heap.size+1:=by simp
    go_wp2_with fail
    refine(rsU_any a 0 0 (T.drop 1) _ (HC1.out _ HB1.out) (by omega) (by omega) (by omega) (HS.out 1) res HR.out).mono ?_
    rintro e w2 ⟨A2,m2,c2,rfl,hrow,hb⟩
    have HB2:=hid (below_step HB1.out hb)
    have HX2:=hid (HX1.out.below hb)
    have HY2:=hid (HY1.out.below hb)
    have HG2:=hid (RowR.mono hrow (B':=w1.heap.size+1) (by omega))
    have hlt2:w1.heap.size<w2.heap.size:=HY2.out.lt
    have hlt3:w.heap.size<w2.heap.size:=HX2.out.lt
    obtain⟨q,hq⟩:∃q,q=rsN res:=⟨_,rfl⟩
    have HQE:=hid hq
    have hqn:q≤0:=by rw [hq,HQ0.out];exact Nat.le_refl _
    rw [←hq]
    clear hrow hb hq
    have HT1:Hid (Z.1=⟨1,rsL res,[],⟨#[]⟩,⟨#[]⟩⟩):=hid (by rw [HZZ.out];rfl)
    have HT2:Hid ((Z.2:Int)=1+(q:Int)):=hid (by rw [HZZ.out,HQE.out];show((1+rsN res:Nat):Int)=_;omega)
    obtain⟨⟨y0,y1,y2,y3,y4⟩,r0,r1,r2,r3,r4⟩:=five HX2.out
    obtain⟨⟨x0,x1,x2,x3,x4⟩,g0,g1,g2,g3,g4⟩:=five HY2.out
    go_wp2
    have hfin:=TyBox.full (k':=1) (vr':=.slice A2 m2 c2) (vn':=.slice none 0 0) (pt':=⟨#[]⟩) (ph':=⟨#[]⟩) (TyBox.set (c:=w1.heap.size) (j:=1) (u:=.slice A2 m2 c2) HX2.out (by omega))
    refine bodyPost_ret (results_ty rfl _ _ ⟨w.heap.size,0,none⟩ _ rfl (run_loadTy hfin)) rfl ?_
    refine⟨⟨⟨1,.slice A2 m2 c2,.slice none 0 0,⟨#[]⟩,⟨#[]⟩⟩,(by rw [HT2.out];first|done|rfl),?_⟩,below_set5 (below_set' HB2.out (by omega)) (by omega)⟩
    rw [HT1.out]
    exact(OwnTy.set5 (OwnTy.setLow (ownTy_mk HG2.out (row_nil _ _) (by simp [Value.ownBlock])) (by omega)) (by omega)).mono (by omega)
   ·have HZZ:=hid (HKK.out 2 rfl (by omega))
    clear HKK
    go_enter Tryz.func32,Tryz.ntmps32
    go_wp2_with fail
    refine(HWD.out _ HB0.out).mono ?_
    rintro e w1 ⟨rfl,hb1⟩
    have HB1:=hid (below_al (below_step HB0.out hb1) (.cells #[.int .i64 2,.slice none 0 0,.slice none 0 0,.string ⟨#[]⟩,.string ⟨#[]⟩] 27))
    have HX1:=hid (TyBox.below (HX0.out w1 hb1) (below_al (Below.refl _ _) (.cells #[.int .i64 2,.slice none 0 0,.slice none 0 0,.string ⟨#[]⟩,.string ⟨#[]⟩] 27)))
    have HY1:Hid (TyBox (w1.alloc (.cells #[.int .i64 2,.slice none 0 0,.slice none 0 0,.string ⟨#[]⟩,.string ⟨#[]⟩] 27)) w1.heap.size 2 (.slice none 0 0) (.slice none 0 0) ⟨#[]⟩ ⟨#[]⟩):=hid (heap_alloc_new w1 _)
    have hlt1:w.heap.size<w1.heap.size:=(HX0.out w1 hb1).lt
    have HXR:=hid (HX0.out w1 hb1)
    have HBW:=hid (below_step HB0.out hb1)
    clear hb1
    have hszb:(w1.alloc (.cells #[.int .i64 2,.slice none 0 0,.slice none 0 0,.string ⟨#[]⟩,.string ⟨#[]⟩] 27)).heap.size=w1.heap.size+1:=by simp
    go_wp2_with fail
    refine(rsU_any a 0 0 (T.drop 1) _ (HC1.out _ HB1.out) (by omega) (by omega) (by omega) (HS.out 1) res HR.out).mono ?_
    rintro e w2 ⟨A2,m2,c2,rfl,hrow,hb⟩
    have HB2:=hid (below_step HB1.out hb)
    have HX2:=hid (HX1.out.below hb)
    have HY2:=hid (HY1.out.below hb)
    have HG2:=hid (RowR.mono hrow (B':=w1.heap.size+1) (by omega))
    have hlt2:w1.heap.size<w2.heap.size:=HY2.out.lt
    have hlt3:w.heap.size<w2.heap.size:=HX2.out.lt
    obtain⟨q,hq⟩:∃q,q=rsN res:=⟨_,rfl⟩
    have HQE:=hid hq
    have hqn:q≤0:=by rw [hq,HQ0.out];exact Nat.le_refl _
    rw [←hq]
    clear hrow hb hq
    obtain⟨sx,hsx⟩:∃s,s=txS (textT ((T.drop 1).drop q)):=⟨_,rfl⟩
    obtain⟨mx,hmx⟩:∃m,m=txN (textT ((T.drop 1).drop q)):=⟨_,rfl⟩
    have hmx1:mx≤1:=by rw [hmx];unfold txN;split<;>omega
    have HT1:Hid (Z.1=⟨2,rsL res,[],sx,⟨#[]⟩⟩):=hid (by rw [HZZ.out,hsx,HQE.out];rfl)
    have HT2:Hid ((Z.2:Int)=1+(q:Int)+(mx:Int)):=hid (by rw [HZZ.out,hmx,HQE.out];show((1+(rsN res+txN (textT ((T.drop 1).drop (rsN res)))):Nat):Int)=_;omega)
    have HSX:=hid (And.intro hsx hmx)
    clear hsx hmx
    have HC2:=hid (HC1.out)
    have HC3:Hid (∀W,Below w.heap.size w W→HasT W (.slice (some a) (0-q) (0-q)) ((T.drop 1).drop q)):=hid fun W hb=>by
     have h:=HasT.cutE (HC1.out W hb) (k:=q) (by omega) (by omega) (by omega)
     exact h
    have HFL:Hid (∀W,Below w.heap.size w W→Calls Tryz.prog 66 #[.slice (some a) (0-q) (0-q)] W fun e w'=>e=.returned (.tuple #[.string sx,.int .i64 mx])∧Below W.heap.size W w'):=hid fun W hb=>(iFil_any _ _ _ _ W (HC3.out W hb)).mono fun e w' h=>⟨by rw [h.1,HSX.out.1,HSX.out.2],by rw [←h.2];exact Below.refl _ _⟩
    obtain⟨⟨y0,y1,y2,y3,y4⟩,r0,r1,r2,r3,r4⟩:=five HX2.out
    obtain⟨⟨x0,x1,x2,x3,x4⟩,g0,g1,g2,g3,g4⟩:=five HY2.out
    obtain rfl:q=0:=by omega
    go_wp2_with fail
    refine(HFL.out _ (below_set' HB2.out (by omega))).mono ?_
    rintro e w3 ⟨rfl,hb⟩
    have HB3:=hid (below_step (below_set' HB2.out (b:=w1.heap.size) (j:=1) (u:=.slice A2 m2 c2) (by omega)) hb)
    have HX3:=hid (TyBox.below (TyBox.set (c:=w1.heap.size) (j:=1) (u:=.slice A2 m2 c2) HX2.out (by omega)) hb)
    have HY3:Hid (TyBox w3 w1.heap.size 2 (.slice A2 m2 c2) (.slice none 0 0) ⟨#[]⟩ ⟨#[]⟩):=hid (TyBox.below (set5 HY2.out 1 (.slice A2 m2 c2)) hb)
    have HG3:=hid (OwnTy.below (OwnTy.setLow (b:=w1.heap.size) (j:=1) (u:=.slice A2 m2 c2) (ownTy_mk (k:=2) (pt:=sx) (ph:=⟨#[]⟩) HG2.out (row_nil _ _) (by simp [Value.ownBlock])) (by omega)) hb)
    have hlt4:w1.heap.size<w3.heap.size:=HY3.out.lt
    have hlt5:w.heap.size<w3.heap.size:=HX3.out.lt
    clear hb x0 x1 x2 x3 x4 g0 g1 g2 g3 g4 y0 y1 y2 y3 y4 r0 r1 r2 r3 r4
    obtain⟨⟨y0,y1,y2,y3,y4⟩,r0,r1,r2,r3,r4⟩:=five HX3.out
    obtain⟨⟨x0,x1,x2,x3,x4⟩,g0,g1,g2,g3,g4⟩:=five HY3.out
    go_wp2
    have hfin:=TyBox.full (k':=2) (vr':=.slice A2 m2 c2) (vn':=.slice none 0 0) (pt':=sx) (ph':=⟨#[]⟩) (TyBox.set (c:=w1.heap.size) (j:=3) (u:=.string sx) HX3.out (by omega))
    refine bodyPost_ret (results_ty rfl _ _ ⟨w.heap.size,0,none⟩ _ rfl (run_loadTy hfin)) rfl ?_
    refine⟨⟨⟨2,.slice A2 m2 c2,.slice none 0 0,sx,⟨#[]⟩⟩,(by rw [HT2.out];first|done|rfl),?_⟩,below_set5 (below_set' HB3.out (by omega)) (by omega)⟩
    rw [HT1.out]
    exact(OwnTy.set5 (OwnTy.setLow HG3.out (by omega)) (by omega)).mono (by omega)
   ·have HZZ:=hid (HKK.out 3 rfl (by omega))
    clear HKK
    go_enter Tryz.func32,Tryz.ntmps32
    go_wp2_with fail
    refine(HWD.out _ HB0.out).mono ?_
    rintro e w1 ⟨rfl,hb1⟩
    have HB1:=hid (below_al (below_step HB0.out hb1) (.cells #[.int .i64 3,.slice none 0 0,.slice none 0 0,.string ⟨#[]⟩,.string ⟨#[]⟩] 27))
    have HX1:=hid (TyBox.below (HX0.out w1 hb1) (below_al (Below.refl _ _) (.cells #[.int .i64 3,.slice none 0 0,.slice none 0 0,.string ⟨#[]⟩,.string ⟨#[]⟩] 27)))
    have HY1:Hid (TyBox (w1.alloc (.cells #[.int .i64 3,.slice none 0 0,.slice none 0 0,.string ⟨#[]⟩,.string ⟨#[]⟩] 27)) w1.heap.size 3 (.slice none 0 0) (.slice none 0 0) ⟨#[]⟩ ⟨#[]⟩):=hid (heap_alloc_new w1 _)
    have hlt1:w.heap.size<w1.heap.size:=(HX0.out w1 hb1).lt
    have HXR:=hid (HX0.out w1 hb1)
    have HBW:=hid (below_step HB0.out hb1)
    clear hb1
    have hszb:(w1.alloc (.cells #[.int .i64 3,.slice none 0 0,.slice none 0 0,.string ⟨#[]⟩,.string ⟨#[]⟩] 27)).heap.size=w1.heap.size+1:=by simp
    have HT1:Hid (Z.1=⟨3,[],[],⟨#[]⟩,⟨#[]⟩⟩∧Z.2=1):=hid (by rw [HZZ.out];exact⟨rfl,rfl⟩)
    have HT2:=hid HT1.out.2
    have HT1:=hid HT1.out.1
    have HX0w:=hid HXR.out
    obtain⟨⟨y0,y1,y2,y3,y4⟩,r0,r1,r2,r3,r4⟩:=five HX0w.out
    go_wp2
    have hfin:=TyBox.below (TyBox.full (k':=3) (vr':=.slice none 0 0) (vn':=.slice none 0 0) (pt':=⟨#[]⟩) (ph':=⟨#[]⟩) HX0w.out) (below_al (Below.refl _ _) (.cells #[.int .i64 3,.slice none 0 0,.slice none 0 0,.string ⟨#[]⟩,.string ⟨#[]⟩] 27))
    refine bodyPost_ret (results_ty rfl _ _ ⟨w.heap.size,0,none⟩ _ rfl (run_loadTy hfin)) rfl ?_
    refine⟨⟨⟨3,.slice none 0 0,.slice none 0 0,⟨#[]⟩,⟨#[]⟩⟩,(by rw [HT2.out];first|done|rfl),?_⟩,below_al (below_set5 HBW.out (by omega)) _⟩
    rw [HT1.out]
    exact ownTy_mk (rowG_nil _ _) (row_nil _ _) (by simp [Value.ownBlock])
   ·have HZZ:=hid (HKK.out 4 rfl (by omega))
    clear HKK
    go_enter Tryz.func32,Tryz.ntmps32
    go_wp2_with fail
    refine(HWD.out _ HB0.out).mono ?_
    rintro e w1 ⟨rfl,hb1⟩
    have HB1:=hid (below_al (below_step HB0.out hb1) (.cells #[.int .i64 4,.slice none 0 0,.slice none 0 0,.string ⟨#[]⟩,.string ⟨#[]⟩] 27))
    have HX1:=hid (TyBox.below (HX0.out w1 hb1) (below_al (Below.refl _ _) (.cells #[.int .i64 4,.slice none 0 0,.slice none 0 0,.string ⟨#[]⟩,.string ⟨#[]⟩] 27)))
    have HY1:Hid (TyBox (w1.alloc (.cells #[.int .i64 4,.slice none 0 0,.slice none 0 0,.string ⟨#[]⟩,.string ⟨#[]⟩] 27)) w1.heap.size 4 (.slice none 0 0) (.slice none 0 0) ⟨#[]⟩ ⟨#[]⟩):=hid (heap_alloc_new w1 _)
    have hlt1:w.heap.size<w1.heap.size:=(HX0.out w1 hb1).lt
    have HXR:=hid (HX0.out w1 hb1)
    have HBW:=hid (below_step HB0.out hb1)
    clear hb1
    have hszb:(w1.alloc (.cells #[.int .i64 4,.slice none 0 0,.slice none 0 0,.string ⟨#[]⟩,.string ⟨#[]⟩] 27)).heap.size=w1.heap.size+1:=by simp
    go_wp2_with fail
    refine(iNms_any (some a) 0 0 (T.drop 1) _ (HC1.out _ HB1.out) (by omega)).mono ?_
    rintro e w2 ⟨⟨v2,rfl,hrow⟩,hb⟩
    obtain⟨A2,m2,c2,rfl⟩:∃A n c,v2=.slice A n c:=by obtain⟨A,c,hv,_⟩:=hrow.has;exact⟨A,_,c,hv⟩
    have HG2:=hid (Row.mono hrow (B':=w1.heap.size+1) (by omega))
    have HB2:=hid (below_step HB1.out hb)
    have HX2:=hid (HX1.out.below hb)
    have HY2:=hid (HY1.out.below hb)
    have hlt2:w1.heap.size<w2.heap.size:=HY2.out.lt
    have hlt3:w.heap.size<w2.heap.size:=HX2.out.lt
    obtain⟨q,hq⟩:∃q,q=(namesT (T.drop 1)).length:=⟨_,rfl⟩
    have hqn:q≤1048576:=by have:=namesT_len (T.drop 1);rw [List.length_drop,←HN.out]at this;omega
    have HT1:Hid (Z.1=⟨4,[],namesT (T.drop 1),⟨#[]⟩,⟨#[]⟩⟩):=hid (by rw [HZZ.out];rfl)
    have HT2:Hid ((Z.2:Int)=1+(q:Int)):=hid (by rw [HZZ.out,hq];show((1+(namesT (T.drop 1)).length:Nat):Int)=_;omega)
    rw [←hq]
    clear hrow hb hq
    obtain⟨⟨y0,y1,y2,y3,y4⟩,r0,r1,r2,r3,r4⟩:=five HX2.out
    obtain⟨⟨x0,x1,x2,x3,x4⟩,g0,g1,g2,g3,g4⟩:=five HY2.out
    go_wp2
    have hfin:=TyBox.full (k':=4) (vr':=.slice none 0 0) (vn':=.slice A2 m2 c2) (pt':=⟨#[]⟩) (ph':=⟨#[]⟩) (TyBox.set (c:=w1.heap.size) (j:=2) (u:=.slice A2 m2 c2) HX2.out (by omega))
    refine bodyPost_ret (results_ty rfl _ _ ⟨w.heap.size,0,none⟩ _ rfl (run_loadTy hfin)) rfl ?_
    refine⟨⟨⟨4,.slice none 0 0,.slice A2 m2 c2,⟨#[]⟩,⟨#[]⟩⟩,(by rw [HT2.out];first|done|rfl),?_⟩,below_set5 (below_set' HB2.out (by omega)) (by omega)⟩
    rw [HT1.out]
    exact(OwnTy.set5 (OwnTy.setLow (ownTy_mk (rowG_nil _ _) HG2.out (by simp [Value.ownBlock])) (by omega)) (by omega)).mono (by omega)
   ·have HZZ:=hid (HKK.out 5 rfl (by omega))
    clear HKK
    go_enter Tryz.func32,Tryz.ntmps32
    go_wp2_with fail
    refine(HWD.out _ HB0.out).mono ?_
    rintro e w1 ⟨rfl,hb1⟩
    have HB1:=hid (below_al (below_step HB0.out hb1) (.cells #[.int .i64 5,.slice none 0 0,.slice none 0 0,.string ⟨#[]⟩,.string ⟨#[]⟩] 27))
    have HX1:=hid (TyBox.below (HX0.out w1 hb1) (below_al (Below.refl _ _) (.cells #[.int .i64 5,.slice none 0 0,.slice none 0 0,.string ⟨#[]⟩,.string ⟨#[]⟩] 27)))
    have HY1:Hid (TyBox (w1.alloc (.cells #[.int .i64 5,.slice none 0 0,.slice none 0 0,.string ⟨#[]⟩,.string ⟨#[]⟩] 27)) w1.heap.size 5 (.slice none 0 0) (.slice none 0 0) ⟨#[]⟩ ⟨#[]⟩):=hid (heap_alloc_new w1 _)
    have hlt1:w.heap.size<w1.heap.size:=(HX0.out w1 hb1).lt
    have HXR:=hid (HX0.out w1 hb1)
    have HBW:=hid (below_step HB0.out hb1)
    clear hb1
    have hszb:(w1.alloc (.cells #[.int .i64 5,.slice none 0 0,.slice none 0 0,.string ⟨#[]⟩,.string ⟨#[]⟩] 27)).heap.size=w1.heap.size+1:=by simp
    obtain⟨sx,hsx⟩:∃s,s=txS (textT (T.drop 1)):=⟨_,rfl⟩
    obtain⟨mx,hmx⟩:∃m,m=txN (textT (T.drop 1)):=⟨_,rfl⟩
    have hmx1:mx≤1:=by rw [hmx];unfold txN;split<;>omega
    have HFL:Hid (∀W,Below w.heap.size w W→Calls Tryz.prog 66 #[.slice (some a) 0 0] W fun e w'=>e=.returned (.tuple #[.string sx,.int .i64 mx])∧Below W.heap.size W w'):=hid fun W hb=>(iFil_any _ _ _ _ W (HC1.out W hb)).mono fun e w' h=>⟨by rw [h.1,hsx,hmx],by rw [←h.2];exact Below.refl _ _⟩
    have HT1:Hid (Z.1=⟨5,[],[],⟨#[]⟩,sx⟩):=hid (by rw [HZZ.out,hsx];rfl)
    have HT2:Hid ((Z.2:Int)=1+(mx:Int)):=hid (by rw [HZZ.out,hmx];show((1+txN (textT (T.drop 1)):Nat):Int)=_;omega)
    clear hsx hmx
    go_wp2_with fail
    refine(HFL.out _ HB1.out).mono ?_
    rintro e w2 ⟨rfl,hb⟩
    have HB2:=hid (below_step HB1.out hb)
    have HX2:=hid (HX1.out.below hb)
    have HY2:=hid (HY1.out.below hb)
    have hlt2:w1.heap.size<w2.heap.size:=HY2.out.lt
    have hlt3:w.heap.size<w2.heap.size:=HX2.out.lt
    clear hb
    obtain⟨⟨y0,y1,y2,y3,y4⟩,r0,r1,r2,r3,r4⟩:=five HX2.out
    obtain⟨⟨x0,x1,x2,x3,x4⟩,g0,g1,g2,g3,g4⟩:=five HY2.out
    go_wp2
    have hfin:=TyBox.full (k':=5) (vr':=.slice none 0 0) (vn':=.slice none 0 0) (pt':=⟨#[]⟩) (ph':=sx) (TyBox.set (c:=w1.heap.size) (j:=4) (u:=.string sx) HX2.out (by omega))
    refine bodyPost_ret (results_ty rfl _ _ ⟨w.heap.size,0,none⟩ _ rfl (run_loadTy hfin)) rfl ?_
    refine⟨⟨⟨5,.slice none 0 0,.slice none 0 0,⟨#[]⟩,sx⟩,(by rw [HT2.out];first|done|rfl),?_⟩,below_set5 (below_set' HB2.out (by omega)) (by omega)⟩
    rw [HT1.out]
    exact(OwnTy.set5 (OwnTy.setLow (ownTy_mk (B:=w1.heap.size+1) (rowG_nil _ _) (row_nil _ _) (by simp [Value.ownBlock])) (by omega)) (by omega)).mono (by omega)
   ·have HZZ:=hid (HKK.out 6 rfl (by omega))
    clear HKK
    go_enter Tryz.func32,Tryz.ntmps32
    go_wp2_with fail
    refine(HWD.out _ HB0.out).mono ?_
    rintro e w1 ⟨rfl,hb1⟩
    have HB1:=hid (below_al (below_step HB0.out hb1) (.cells #[.int .i64 6,.slice none 0 0,.slice none 0 0,.string ⟨#[]⟩,.string ⟨#[]⟩] 27))
    have HX1:=hid (TyBox.below (HX0.out w1 hb1) (below_al (Below.refl _ _) (.cells #[.int .i64 6,.slice none 0 0,.slice none 0 0,.string ⟨#[]⟩,.string ⟨#[]⟩] 27)))
    have HY1:Hid (TyBox (w1.alloc (.cells #[.int .i64 6,.slice none 0 0,.slice none 0 0,.string ⟨#[]⟩,.string ⟨#[]⟩] 27)) w1.heap.size 6 (.slice none 0 0) (.slice none 0 0) ⟨#[]⟩ ⟨#[]⟩):=hid (heap_alloc_new w1 _)
    have hlt1:w.heap.size<w1.heap.size:=(HX0.out w1 hb1).lt
    have HXR:=hid (HX0.out w1 hb1)
    have HBW:=hid (below_step HB0.out hb1)
    clear hb1
    have hszb:(w1.alloc (.cells #[.int .i64 6,.slice none 0 0,.slice none 0 0,.string ⟨#[]⟩,.string ⟨#[]⟩] 27)).heap.size=w1.heap.size+1:=by simp
    have HT1:Hid (Z.1=⟨6,[],[],⟨#[]⟩,⟨#[]⟩⟩∧Z.2=1):=hid (by rw [HZZ.out];exact⟨rfl,rfl⟩)
    have HT2:=hid HT1.out.2
    have HT1:=hid HT1.out.1
    have HX0w:=hid HXR.out
    obtain⟨⟨y0,y1,y2,y3,y4⟩,r0,r1,r2,r3,r4⟩:=five HX0w.out
    go_wp2
    have hfin:=TyBox.below (TyBox.full (k':=6) (vr':=.slice none 0 0) (vn':=.slice none 0 0) (pt':=⟨#[]⟩) (ph':=⟨#[]⟩) HX0w.out) (below_al (Below.refl _ _) (.cells #[.int .i64 6,.slice none 0 0,.slice none 0 0,.string ⟨#[]⟩,.string ⟨#[]⟩] 27))
    refine bodyPost_ret (results_ty rfl _ _ ⟨w.heap.size,0,none⟩ _ rfl (run_loadTy hfin)) rfl ?_
    refine⟨⟨⟨6,.slice none 0 0,.slice none 0 0,⟨#[]⟩,⟨#[]⟩⟩,(by rw [HT2.out];first|done|rfl),?_⟩,below_al (below_set5 HBW.out (by omega)) _⟩
    rw [HT1.out]
    exact ownTy_mk (rowG_nil _ _) (row_nil _ _) (by simp [Value.ownBlock])
  ·have HC1:Hid (∀W,Below w.heap.size w W→HasT W (.slice (some (a.add (1*3))) (n-1) (cap-1)) (T.drop 1)):=hid fun W hb=>HV.out a rfl 1 hn1 hcp W hb
   obtain⟨n,rfl⟩:∃m,n=m+1:=⟨n-1,by omega⟩
   obtain⟨cap,rfl⟩:∃m,cap=m+1:=⟨cap-1,by omega⟩
   have HC1:Hid (∀W,Below w.heap.size w W→HasT W (.slice (some ⟨a.block,a.off+3,none⟩) n cap) (T.drop 1)):=HC1
   have hcp':¬cap=0:=by omega
   clear HV HE
   rcases hk with rfl|rfl|rfl|rfl|rfl|rfl
   ·have HZZ:=hid (HKK.out 1 rfl (by omega))
    clear HKK
    go_enter Tryz.func32,Tryz.ntmps32
    go_wp2_with fail
    refine(HWD.out _ HB0.out).mono ?_
    rintro e w1 ⟨rfl,hb1⟩
    have HB1:=hid (below_al (below_step HB0.out hb1) (.cells #[.int .i64 1,.slice none 0 0,.slice none 0 0,.string ⟨#[]⟩,.string ⟨#[]⟩] 27))
    have HX1:=hid (TyBox.below (HX0.out w1 hb1) (below_al (Below.refl _ _) (.cells #[.int .i64 1,.slice none 0 0,.slice none 0 0,.string ⟨#[]⟩,.string ⟨#[]⟩] 27)))
    have HY1:Hid (TyBox (w1.alloc (.cells #[.int .i64 1,.slice none 0 0,.slice none 0 0,.string ⟨#[]⟩,.string ⟨#[]⟩] 27)) w1.heap.size 1 (.slice none 0 0) (.slice none 0 0) ⟨#[]⟩ ⟨#[]⟩):=hid (heap_alloc_new w1 _)
    have hlt1:w.heap.size<w1.heap.size:=(HX0.out w1 hb1).lt
    have HXR:=hid (HX0.out w1 hb1)
    have HBW:=hid (below_step HB0.out hb1)
    clear hb1
    have hszb:(w1.alloc (.cells #[.int .i64 1,.slice none 0 0,.slice none 0 0,.string ⟨#[]⟩,.string ⟨#[]⟩] 27)).heap.size=w1.heap.size+1:=by simp
    go_wp2_with fail
    refine(rsU_any ⟨a.block,a.off+3,none⟩ n cap (T.drop 1) _ (HC1.out _ HB1.out) (by omega) (by omega) (by omega) (HS.out 1) res HR.out).mono ?_
    rintro e w2 ⟨A2,m2,c2,rfl,hrow,hb⟩
    have HB2:=hid (below_step HB1.out hb)
    have HX2:=hid (HX1.out.below hb)
    have HY2:=hid (HY1.out.below hb)
    have HG2:=hid (RowR.mono hrow (B':=w1.heap.size+1) (by omega))
    have hlt2:w1.heap.size<w2.heap.size:=HY2.out.lt
    have hlt3:w.heap.size<w2.heap.size:=HX2.out.lt
    obtain⟨q,hq⟩:∃q,q=rsN res:=⟨_,rfl⟩
    have HQE:=hid hq
    have hqn:q≤n:=by have:=HQ.out;rw [List.length_drop,←HN.out]at this;omega
    rw [←hq]
    clear hrow hb hq
    have HT1:Hid (Z.1=⟨1,rsL res,[],⟨#[]⟩,⟨#[]⟩⟩):=hid (by rw [HZZ.out];rfl)
    have HT2:Hid ((Z.2:Int)=1+(q:Int)):=hid (by rw [HZZ.out,HQE.out];show((1+rsN res:Nat):Int)=_;omega)
    obtain⟨⟨y0,y1,y2,y3,y4⟩,r0,r1,r2,r3,r4⟩:=five HX2.out
    obtain⟨⟨x0,x1,x2,x3,x4⟩,g0,g1,g2,g3,g4⟩:=five HY2.out
    go_wp2
    have hfin:=TyBox.full (k':=1) (vr':=.slice A2 m2 c2) (vn':=.slice none 0 0) (pt':=⟨#[]⟩) (ph':=⟨#[]⟩) (TyBox.set (c:=w1.heap.size) (j:=1) (u:=.slice A2 m2 c2) HX2.out (by omega))
    refine bodyPost_ret (results_ty rfl _ _ ⟨w.heap.size,0,none⟩ _ rfl (run_loadTy hfin)) rfl ?_
    refine⟨⟨⟨1,.slice A2 m2 c2,.slice none 0 0,⟨#[]⟩,⟨#[]⟩⟩,(by rw [HT2.out];first|done|rfl),?_⟩,below_set5 (below_set' HB2.out (by omega)) (by omega)⟩
    rw [HT1.out]
    exact(OwnTy.set5 (OwnTy.setLow (ownTy_mk HG2.out (row_nil _ _) (by simp [Value.ownBlock])) (by omega)) (by omega)).mono (by omega)
   ·have HZZ:=hid (HKK.out 2 rfl (by omega))
    clear HKK
    go_enter Tryz.func32,Tryz.ntmps32
    go_wp2_with fail
    refine(HWD.out _ HB0.out).mono ?_
    rintro e w1 ⟨rfl,hb1⟩
    have HB1:=hid (below_al (below_step HB0.out hb1) (.cells #[.int .i64 2,.slice none 0 0,.slice none 0 0,.string ⟨#[]⟩,.string ⟨#[]⟩] 27))
    have HX1:=hid (TyBox.below (HX0.out w1 hb1) (below_al (Below.refl _ _) (.cells #[.int .i64 2,.slice none 0 0,.slice none 0 0,.string ⟨#[]⟩,.string ⟨#[]⟩] 27)))
    have HY1:Hid (TyBox (w1.alloc (.cells #[.int .i64 2,.slice none 0 0,.slice none 0 0,.string ⟨#[]⟩,.string ⟨#[]⟩] 27)) w1.heap.size 2 (.slice none 0 0) (.slice none 0 0) ⟨#[]⟩ ⟨#[]⟩):=hid (heap_alloc_new w1 _)
    have hlt1:w.heap.size<w1.heap.size:=(HX0.out w1 hb1).lt
    have HXR:=hid (HX0.out w1 hb1)
    have HBW:=hid (below_step HB0.out hb1)
    clear hb1
    have hszb:(w1.alloc (.cells #[.int .i64 2,.slice none 0 0,.slice none 0 0,.string ⟨#[]⟩,.string ⟨#[]⟩] 27)).heap.size=w1.heap.size+1:=by simp
    go_wp2_with fail
    refine(rsU_any ⟨a.block,a.off+3,none⟩ n cap (T.drop 1) _ (HC1.out _ HB1.out) (by omega) (by omega) (by omega) (HS.out 1) res HR.out).mono ?_
    rintro e w2 ⟨A2,m2,c2,rfl,hrow,hb⟩
    have HB2:=hid (below_step HB1.out hb)
    have HX2:=hid (HX1.out.below hb)
    have HY2:=hid (HY1.out.below hb)
    have HG2:=hid (RowR.mono hrow (B':=w1.heap.size+1) (by omega))
    have hlt2:w1.heap.size<w2.heap.size:=HY2.out.lt
    have hlt3:w.heap.size<w2.heap.size:=HX2.out.lt
    obtain⟨q,hq⟩:∃q,q=rsN res:=⟨_,rfl⟩
    have HQE:=hid hq
    have hqn:q≤n:=by have:=HQ.out;rw [List.length_drop,←HN.out]at this;omega
    rw [←hq]
    clear hrow hb hq
    obtain⟨sx,hsx⟩:∃s,s=txS (textT ((T.drop 1).drop q)):=⟨_,rfl⟩
    obtain⟨mx,hmx⟩:∃m,m=txN (textT ((T.drop 1).drop q)):=⟨_,rfl⟩
    have hmx1:mx≤1:=by rw [hmx];unfold txN;split<;>omega
    have HT1:Hid (Z.1=⟨2,rsL res,[],sx,⟨#[]⟩⟩):=hid (by rw [HZZ.out,hsx,HQE.out];rfl)
    have HT2:Hid ((Z.2:Int)=1+(q:Int)+(mx:Int)):=hid (by rw [HZZ.out,hmx,HQE.out];show((1+(rsN res+txN (textT ((T.drop 1).drop (rsN res)))):Nat):Int)=_;omega)
    have HSX:=hid (And.intro hsx hmx)
    clear hsx hmx
    have HC2:=hid (HC1.out)
    by_cases hqc:cap=q
    ·subst hqc
     have HC3:Hid (∀W,Below w.heap.size w W→HasT W (.slice (some ⟨a.block,a.off+3,none⟩) (n-cap) 0) ((T.drop 1).drop cap)):=hid fun W hb=>by
      have h:=HasT.cutE (HC1.out W hb) (k:=cap) (by omega) (by omega) rfl
      rwa [Nat.sub_self]at h
     have HFL:Hid (∀W,Below w.heap.size w W→Calls Tryz.prog 66 #[.slice (some ⟨a.block,a.off+3,none⟩) (n-cap) 0] W fun e w'=>e=.returned (.tuple #[.string sx,.int .i64 mx])∧Below W.heap.size W w'):=hid fun W hb=>(iFil_any _ _ _ _ W (HC3.out W hb)).mono fun e w' h=>⟨by rw [h.1,HSX.out.1,HSX.out.2],by rw [←h.2];exact Below.refl _ _⟩
     obtain⟨⟨y0,y1,y2,y3,y4⟩,r0,r1,r2,r3,r4⟩:=five HX2.out
     obtain⟨⟨x0,x1,x2,x3,x4⟩,g0,g1,g2,g3,g4⟩:=five HY2.out
     go_wp2_with fail
     refine(HFL.out _ (below_set' HB2.out (by omega))).mono ?_
     rintro e w3 ⟨rfl,hb⟩
     have HB3:=hid (below_step (below_set' HB2.out (b:=w1.heap.size) (j:=1) (u:=.slice A2 m2 c2) (by omega)) hb)
     have HX3:=hid (TyBox.below (TyBox.set (c:=w1.heap.size) (j:=1) (u:=.slice A2 m2 c2) HX2.out (by omega)) hb)
     have HY3:Hid (TyBox w3 w1.heap.size 2 (.slice A2 m2 c2) (.slice none 0 0) ⟨#[]⟩ ⟨#[]⟩):=hid (TyBox.below (set5 HY2.out 1 (.slice A2 m2 c2)) hb)
     have HG3:=hid (OwnTy.below (OwnTy.setLow (b:=w1.heap.size) (j:=1) (u:=.slice A2 m2 c2) (ownTy_mk (k:=2) (pt:=sx) (ph:=⟨#[]⟩) HG2.out (row_nil _ _) (by simp [Value.ownBlock])) (by omega)) hb)
     have hlt4:w1.heap.size<w3.heap.size:=HY3.out.lt
     have hlt5:w.heap.size<w3.heap.size:=HX3.out.lt
     clear hb x0 x1 x2 x3 x4 g0 g1 g2 g3 g4 y0 y1 y2 y3 y4 r0 r1 r2 r3 r4
     obtain⟨⟨y0,y1,y2,y3,y4⟩,r0,r1,r2,r3,r4⟩:=five HX3.out
     obtain⟨⟨x0,x1,x2,x3,x4⟩,g0,g1,g2,g3,g4⟩:=five HY3.out
     go_wp2
     have hfin:=TyBox.full (k':=2) (vr':=.slice A2 m2 c2) (vn':=.slice none 0 0) (pt':=sx) (ph':=⟨#[]⟩) (TyBox.set (c:=w1.heap.size) (j:=3) (u:=.string sx) HX3.out (by omega))
     refine bodyPost_ret (results_ty rfl _ _ ⟨w.heap.size,0,none⟩ _ rfl (run_loadTy hfin)) rfl ?_
     refine⟨⟨⟨2,.slice A2 m2 c2,.slice none 0 0,sx,⟨#[]⟩⟩,(by rw [HT2.out];first|done|rfl),?_⟩,below_set5 (below_set' HB3.out (by omega)) (by omega)⟩
     rw [HT1.out]
     exact(OwnTy.set5 (OwnTy.setLow HG3.out (by omega)) (by omega)).mono (by omega)
    ·have HC3:Hid (∀W,Below w.heap.size w W→HasT W (.slice (some ⟨a.block,a.off+3+q*3,none⟩) (n-q) (cap-q)) ((T.drop 1).drop q)):=hid fun W hb=>by
      have h:=HasT.cutN (HC1.out W hb) (k:=q) (by omega) (by omega) (by omega)
      rwa [addr_at]at h
     have HFL:Hid (∀W,Below w.heap.size w W→Calls Tryz.prog 66 #[.slice (some ⟨a.block,a.off+3+q*3,none⟩) (n-q) (cap-q)] W fun e w'=>e=.returned (.tuple #[.string sx,.int .i64 mx])∧Below W.heap.size W w'):=hid fun W hb=>(iFil_any _ _ _ _ W (HC3.out W hb)).mono fun e w' h=>⟨by rw [h.1,HSX.out.1,HSX.out.2],by rw [←h.2];exact Below.refl _ _⟩
     obtain⟨⟨y0,y1,y2,y3,y4⟩,r0,r1,r2,r3,r4⟩:=five HX2.out
     obtain⟨⟨x0,x1,x2,x3,x4⟩,g0,g1,g2,g3,g4⟩:=five HY2.out
     go_wp2_with fail
     refine(HFL.out _ (below_set' HB2.out (by omega))).mono ?_
     rintro e w3 ⟨rfl,hb⟩
     have HB3:=hid (below_step (below_set' HB2.out (b:=w1.heap.size) (j:=1) (u:=.slice A2 m2 c2) (by omega)) hb)
     have HX3:=hid (TyBox.below (TyBox.set (c:=w1.heap.size) (j:=1) (u:=.slice A2 m2 c2) HX2.out (by omega)) hb)
     have HY3:Hid (TyBox w3 w1.heap.size 2 (.slice A2 m2 c2) (.slice none 0 0) ⟨#[]⟩ ⟨#[]⟩):=hid (TyBox.below (set5 HY2.out 1 (.slice A2 m2 c2)) hb)
     have HG3:=hid (OwnTy.below (OwnTy.setLow (b:=w1.heap.size) (j:=1) (u:=.slice A2 m2 c2) (ownTy_mk (k:=2) (pt:=sx) (ph:=⟨#[]⟩) HG2.out (row_nil _ _) (by simp [Value.ownBlock])) (by omega)) hb)
     have hlt4:w1.heap.size<w3.heap.size:=HY3.out.lt
     have hlt5:w.heap.size<w3.heap.size:=HX3.out.lt
     clear hb x0 x1 x2 x3 x4 g0 g1 g2 g3 g4 y0 y1 y2 y3 y4 r0 r1 r2 r3 r4
     obtain⟨⟨y0,y1,y2,y3,y4⟩,r0,r1,r2,r3,r4⟩:=five HX3.out
     obtain⟨⟨x0,x1,x2,x3,x4⟩,g0,g1,g2,g3,g4⟩:=five HY3.out
     go_wp2
     have hfin:=TyBox.full (k':=2) (vr':=.slice A2 m2 c2) (vn':=.slice none 0 0) (pt':=sx) (ph':=⟨#[]⟩) (TyBox.set (c:=w1.heap.size) (j:=3) (u:=.string sx) HX3.out (by omega))
     refine bodyPost_ret (results_ty rfl _ _ ⟨w.heap.size,0,none⟩ _ rfl (run_loadTy hfin)) rfl ?_
     refine⟨⟨⟨2,.slice A2 m2 c2,.slice none 0 0,sx,⟨#[]⟩⟩,(by rw [HT2.out];first|done|rfl),?_⟩,below_set5 (below_set' HB3.out (by omega)) (by omega)⟩
     rw [HT1.out]
     exact(OwnTy.set5 (OwnTy.setLow HG3.out (by omega)) (by omega)).mono (by omega)
   ·have HZZ:=hid (HKK.out 3 rfl (by omega))
    clear HKK
    go_enter Tryz.func32,Tryz.ntmps32
    go_wp2_with fail
    refine(HWD.out _ HB0.out).mono ?_
    rintro e w1 ⟨rfl,hb1⟩
    have HB1:=hid (below_al (below_step HB0.out hb1) (.cells #[.int .i64 3,.slice none 0 0,.slice none 0 0,.string ⟨#[]⟩,.string ⟨#[]⟩] 27))
    have HX1:=hid (TyBox.below (HX0.out w1 hb1) (below_al (Below.refl _ _) (.cells #[.int .i64 3,.slice none 0 0,.slice none 0 0,.string ⟨#[]⟩,.string ⟨#[]⟩] 27)))
    have HY1:Hid (TyBox (w1.alloc (.cells #[.int .i64 3,.slice none 0 0,.slice none 0 0,.string ⟨#[]⟩,.string ⟨#[]⟩] 27)) w1.heap.size 3 (.slice none 0 0) (.slice none 0 0) ⟨#[]⟩ ⟨#[]⟩):=hid (heap_alloc_new w1 _)
    have hlt1:w.heap.size<w1.heap.size:=(HX0.out w1 hb1).lt
    have HXR:=hid (HX0.out w1 hb1)
    have HBW:=hid (below_step HB0.out hb1)
    clear hb1
    have hszb:(w1.alloc (.cells #[.int .i64 3,.slice none 0 0,.slice none 0 0,.string ⟨#[]⟩,.string ⟨#[]⟩] 27)).heap.size=w1.heap.size+1:=by simp
    have HT1:Hid (Z.1=⟨3,[],[],⟨#[]⟩,⟨#[]⟩⟩∧Z.2=1):=hid (by rw [HZZ.out];exact⟨rfl,rfl⟩)
    have HT2:=hid HT1.out.2
    have HT1:=hid HT1.out.1
    have HX0w:=hid HXR.out
    obtain⟨⟨y0,y1,y2,y3,y4⟩,r0,r1,r2,r3,r4⟩:=five HX0w.out
    go_wp2
    have hfin:=TyBox.below (TyBox.full (k':=3) (vr':=.slice none 0 0) (vn':=.slice none 0 0) (pt':=⟨#[]⟩) (ph':=⟨#[]⟩) HX0w.out) (below_al (Below.refl _ _) (.cells #[.int .i64 3,.slice none 0 0,.slice none 0 0,.string ⟨#[]⟩,.string ⟨#[]⟩] 27))
    refine bodyPost_ret (results_ty rfl _ _ ⟨w.heap.size,0,none⟩ _ rfl (run_loadTy hfin)) rfl ?_
    refine⟨⟨⟨3,.slice none 0 0,.slice none 0 0,⟨#[]⟩,⟨#[]⟩⟩,(by rw [HT2.out];first|done|rfl),?_⟩,below_al (below_set5 HBW.out (by omega)) _⟩
    rw [HT1.out]
    exact ownTy_mk (rowG_nil _ _) (row_nil _ _) (by simp [Value.ownBlock])
   ·have HZZ:=hid (HKK.out 4 rfl (by omega))
    clear HKK
    go_enter Tryz.func32,Tryz.ntmps32
    go_wp2_with fail
    refine(HWD.out _ HB0.out).mono ?_
    rintro e w1 ⟨rfl,hb1⟩
    have HB1:=hid (below_al (below_step HB0.out hb1) (.cells #[.int .i64 4,.slice none 0 0,.slice none 0 0,.string ⟨#[]⟩,.string ⟨#[]⟩] 27))
    have HX1:=hid (TyBox.below (HX0.out w1 hb1) (below_al (Below.refl _ _) (.cells #[.int .i64 4,.slice none 0 0,.slice none 0 0,.string ⟨#[]⟩,.string ⟨#[]⟩] 27)))
    have HY1:Hid (TyBox (w1.alloc (.cells #[.int .i64 4,.slice none 0 0,.slice none 0 0,.string ⟨#[]⟩,.string ⟨#[]⟩] 27)) w1.heap.size 4 (.slice none 0 0) (.slice none 0 0) ⟨#[]⟩ ⟨#[]⟩):=hid (heap_alloc_new w1 _)
    have hlt1:w.heap.size<w1.heap.size:=(HX0.out w1 hb1).lt
    have HXR:=hid (HX0.out w1 hb1)
    have HBW:=hid (below_step HB0.out hb1)
    clear hb1
    have hszb:(w1.alloc (.cells #[.int .i64 4,.slice none 0 0,.slice none 0 0,.string ⟨#[]⟩,.string ⟨#[]⟩] 27)).heap.size=w1.heap.size+1:=by simp
    go_wp2_with fail
    refine(iNms_any (some ⟨a.block,a.off+3,none⟩) n cap (T.drop 1) _ (HC1.out _ HB1.out) (by omega)).mono ?_
    rintro e w2 ⟨⟨v2,rfl,hrow⟩,hb⟩
    obtain⟨A2,m2,c2,rfl⟩:∃A n c,v2=.slice A n c:=by obtain⟨A,c,hv,_⟩:=hrow.has;exact⟨A,_,c,hv⟩
    have HG2:=hid (Row.mono hrow (B':=w1.heap.size+1) (by omega))
    have HB2:=hid (below_step HB1.out hb)
    have HX2:=hid (HX1.out.below hb)
    have HY2:=hid (HY1.out.below hb)
    have hlt2:w1.heap.size<w2.heap.size:=HY2.out.lt
    have hlt3:w.heap.size<w2.heap.size:=HX2.out.lt
    obtain⟨q,hq⟩:∃q,q=(namesT (T.drop 1)).length:=⟨_,rfl⟩
    have hqn:q≤1048576:=by have:=namesT_len (T.drop 1);rw [List.length_drop,←HN.out]at this;omega
    have HT1:Hid (Z.1=⟨4,[],namesT (T.drop 1),⟨#[]⟩,⟨#[]⟩⟩):=hid (by rw [HZZ.out];rfl)
    have HT2:Hid ((Z.2:Int)=1+(q:Int)):=hid (by rw [HZZ.out,hq];show((1+(namesT (T.drop 1)).length:Nat):Int)=_;omega)
    rw [←hq]
    clear hrow hb hq
    obtain⟨⟨y0,y1,y2,y3,y4⟩,r0,r1,r2,r3,r4⟩:=five HX2.out
    obtain⟨⟨x0,x1,x2,x3,x4⟩,g0,g1,g2,g3,g4⟩:=five HY2.out
    go_wp2
    have hfin:=TyBox.full (k':=4) (vr':=.slice none 0 0) (vn':=.slice A2 m2 c2) (pt':=⟨#[]⟩) (ph':=⟨#[]⟩) (TyBox.set (c:=w1.heap.size) (j:=2) (u:=.slice A2 m2 c2) HX2.out (by omega))
    refine bodyPost_ret (results_ty rfl _ _ ⟨w.heap.size,0,none⟩ _ rfl (run_loadTy hfin)) rfl ?_
    refine⟨⟨⟨4,.slice none 0 0,.slice A2 m2 c2,⟨#[]⟩,⟨#[]⟩⟩,(by rw [HT2.out];first|done|rfl),?_⟩,below_set5 (below_set' HB2.out (by omega)) (by omega)⟩
    rw [HT1.out]
    exact(OwnTy.set5 (OwnTy.setLow (ownTy_mk (rowG_nil _ _) HG2.out (by simp [Value.ownBlock])) (by omega)) (by omega)).mono (by omega)
   ·have HZZ:=hid (HKK.out 5 rfl (by omega))
    clear HKK
    go_enter Tryz.func32,Tryz.ntmps32
    go_wp2_with fail
    refine(HWD.out _ HB0.out).mono ?_
    rintro e w1 ⟨rfl,hb1⟩
    have HB1:=hid (below_al (below_step HB0.out hb1) (.cells #[.int .i64 5,.slice none 0 0,.slice none 0 0,.string ⟨#[]⟩,.string ⟨#[]⟩] 27))
    have HX1:=hid (TyBox.below (HX0.out w1 hb1) (below_al (Below.refl _ _) (.cells #[.int .i64 5,.slice none 0 0,.slice none 0 0,.string ⟨#[]⟩,.string ⟨#[]⟩] 27)))
    have HY1:Hid (TyBox (w1.alloc (.cells #[.int .i64 5,.slice none 0 0,.slice none 0 0,.string ⟨#[]⟩,.string ⟨#[]⟩] 27)) w1.heap.size 5 (.slice none 0 0) (.slice none 0 0) ⟨#[]⟩ ⟨#[]⟩):=hid (heap_alloc_new w1 _)
    have hlt1:w.heap.size<w1.heap.size:=(HX0.out w1 hb1).lt
    have HXR:=hid (HX0.out w1 hb1)
    have HBW:=hid (below_step HB0.out hb1)
    clear hb1
    have hszb:(w1.alloc (.cells #[.int .i64 5,.slice none 0 0,.slice none 0 0,.string ⟨#[]⟩,.string ⟨#[]⟩] 27)).heap.size=w1.heap.size+1:=by simp
    obtain⟨sx,hsx⟩:∃s,s=txS (textT (T.drop 1)):=⟨_,rfl⟩
    obtain⟨mx,hmx⟩:∃m,m=txN (textT (T.drop 1)):=⟨_,rfl⟩
    have hmx1:mx≤1:=by rw [hmx];unfold txN;split<;>omega
    have HFL:Hid (∀W,Below w.heap.size w W→Calls Tryz.prog 66 #[.slice (some ⟨a.block,a.off+3,none⟩) n cap] W fun e w'=>e=.returned (.tuple #[.string sx,.int .i64 mx])∧Below W.heap.size W w'):=hid fun W hb=>(iFil_any _ _ _ _ W (HC1.out W hb)).mono fun e w' h=>⟨by rw [h.1,hsx,hmx],by rw [←h.2];exact Below.refl _ _⟩
    have HT1:Hid (Z.1=⟨5,[],[],⟨#[]⟩,sx⟩):=hid (by rw [HZZ.out,hsx];rfl)
    have HT2:Hid ((Z.2:Int)=1+(mx:Int)):=hid (by rw [HZZ.out,hmx];show((1+txN (textT (T.drop 1)):Nat):Int)=_;omega)
    clear hsx hmx
    go_wp2_with fail
    refine(HFL.out _ HB1.out).mono ?_
    rintro e w2 ⟨rfl,hb⟩
    have HB2:=hid (below_step HB1.out hb)
    have HX2:=hid (HX1.out.below hb)
    have HY2:=hid (HY1.out.below hb)
    have hlt2:w1.heap.size<w2.heap.size:=HY2.out.lt
    have hlt3:w.heap.size<w2.heap.size:=HX2.out.lt
    clear hb
    obtain⟨⟨y0,y1,y2,y3,y4⟩,r0,r1,r2,r3,r4⟩:=five HX2.out
    obtain⟨⟨x0,x1,x2,x3,x4⟩,g0,g1,g2,g3,g4⟩:=five HY2.out
    go_wp2
    have hfin:=TyBox.full (k':=5) (vr':=.slice none 0 0) (vn':=.slice none 0 0) (pt':=⟨#[]⟩) (ph':=sx) (TyBox.set (c:=w1.heap.size) (j:=4) (u:=.string sx) HX2.out (by omega))
    refine bodyPost_ret (results_ty rfl _ _ ⟨w.heap.size,0,none⟩ _ rfl (run_loadTy hfin)) rfl ?_
    refine⟨⟨⟨5,.slice none 0 0,.slice none 0 0,⟨#[]⟩,sx⟩,(by rw [HT2.out];first|done|rfl),?_⟩,below_set5 (below_set' HB2.out (by omega)) (by omega)⟩
    rw [HT1.out]
    exact(OwnTy.set5 (OwnTy.setLow (ownTy_mk (B:=w1.heap.size+1) (rowG_nil _ _) (row_nil _ _) (by simp [Value.ownBlock])) (by omega)) (by omega)).mono (by omega)
   ·have HZZ:=hid (HKK.out 6 rfl (by omega))
    clear HKK
    go_enter Tryz.func32,Tryz.ntmps32
    go_wp2_with fail
    refine(HWD.out _ HB0.out).mono ?_
    rintro e w1 ⟨rfl,hb1⟩
    have HB1:=hid (below_al (below_step HB0.out hb1) (.cells #[.int .i64 6,.slice none 0 0,.slice none 0 0,.string ⟨#[]⟩,.string ⟨#[]⟩] 27))
    have HX1:=hid (TyBox.below (HX0.out w1 hb1) (below_al (Below.refl _ _) (.cells #[.int .i64 6,.slice none 0 0,.slice none 0 0,.string ⟨#[]⟩,.string ⟨#[]⟩] 27)))
    have HY1:Hid (TyBox (w1.alloc (.cells #[.int .i64 6,.slice none 0 0,.slice none 0 0,.string ⟨#[]⟩,.string ⟨#[]⟩] 27)) w1.heap.size 6 (.slice none 0 0) (.slice none 0 0) ⟨#[]⟩ ⟨#[]⟩):=hid (heap_alloc_new w1 _)
    have hlt1:w.heap.size<w1.heap.size:=(HX0.out w1 hb1).lt
    have HXR:=hid (HX0.out w1 hb1)
    have HBW:=hid (below_step HB0.out hb1)
    clear hb1
    have hszb:(w1.alloc (.cells #[.int .i64 6,.slice none 0 0,.slice none 0 0,.string ⟨#[]⟩,.string ⟨#[]⟩] 27)).heap.size=w1.heap.size+1:=by simp
    have HT1:Hid (Z.1=⟨6,[],[],⟨#[]⟩,⟨#[]⟩⟩∧Z.2=1):=hid (by rw [HZZ.out];exact⟨rfl,rfl⟩)
    have HT2:=hid HT1.out.2
    have HT1:=hid HT1.out.1
    have HX0w:=hid HXR.out
    obtain⟨⟨y0,y1,y2,y3,y4⟩,r0,r1,r2,r3,r4⟩:=five HX0w.out
    go_wp2
    have hfin:=TyBox.below (TyBox.full (k':=6) (vr':=.slice none 0 0) (vn':=.slice none 0 0) (pt':=⟨#[]⟩) (ph':=⟨#[]⟩) HX0w.out) (below_al (Below.refl _ _) (.cells #[.int .i64 6,.slice none 0 0,.slice none 0 0,.string ⟨#[]⟩,.string ⟨#[]⟩] 27))
    refine bodyPost_ret (results_ty rfl _ _ ⟨w.heap.size,0,none⟩ _ rfl (run_loadTy hfin)) rfl ?_
    refine⟨⟨⟨6,.slice none 0 0,.slice none 0 0,⟨#[]⟩,⟨#[]⟩⟩,(by rw [HT2.out];first|done|rfl),?_⟩,below_al (below_set5 HBW.out (by omega)) _⟩
    rw [HT1.out]
    exact ownTy_mk (rowG_nil _ _) (row_nil _ _) (by simp [Value.ownBlock])
end
end Go.Proofs.YtecladbckadijaaGreatDoor
