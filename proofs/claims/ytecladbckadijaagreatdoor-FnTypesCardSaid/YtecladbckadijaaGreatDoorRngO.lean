/- MERGED for a claim. -/
import Derived.Test.YtecladbckadijaaGreatDoorSortK
set_option linter.unusedVariables false
set_option linter.unusedSimpArgs false
set_option maxRecDepth 100000
set_option maxHeartbeats 16000000
namespace Go.Proofs.YtecladbckadijaaGreatDoor
open Go.Lib (hid)
section
open Go.RowKit Go.Sort Go.Shelf Go.Lib

theorem ltLo (x y:Rg):ltOf (fun x y:Rg=>Lib.compareInt x.lo y.lo) x y=decide (x.lo<y.lo):=by
 unfold ltOf Lib.compareInt
 by_cases h1:x.lo<y.lo
 ·simp [h1]
 ·by_cases h2:y.lo<x.lo<;>simp [h1,h2]
theorem swoLo:SWO (ltOf fun x y:Rg=>Lib.compareInt x.lo y.lo) where
 irrefl x:=by rw [ltLo];simp
 trans x y z h1 h2:=by rw [ltLo]at*;simp at*;omega
 ntrans x y z h1 h2:=by rw [ltLo]at*;simp at*;omega
theorem cmp_any (x y:Rg)(W:World):Calls Tryz.prog 111 #[.agg #[.int .i64 x.lo,.int .i64 x.hi],.agg #[.int .i64 y.lo,.int .i64 y.hi]] W fun e w'=>e=.returned (.int .i64 (Lib.compareInt x.lo y.lo))∧∃q os',w'=grow (W.drewN q) os':=by
 have hcon:=fun W'=>Tryz.cmp_Compare_int x.lo y.lo W'
 generalize Lib.compareInt x.lo y.lo=r at hcon ⊢
 go_enter Tryz.func111,Tryz.ntmps111
 go_wp2_with (first|(go_at_call 130;refine(hcon _).mono ?_;rintro e w' ⟨rfl,rfl⟩))
 go_ret
 exact⟨rfl,0,_,by rw [alloc_eq_grow,alloc_eq_grow,grow_grow];rfl⟩
theorem isAggRng:∀w,(isAgg 80).run Tryz.prog w=.ok true w:=fun w=>by kernel_rfl
theorem sizeRng:∀w,(Go.sizeOf 80).run Tryz.prog w=.ok 2 w:=fun w=>by kernel_rfl
theorem sortRng_any (B g c n:Nat)(l:List Rg)(w:World)(hrow:RowG B w (.slice (some ⟨g,0,none⟩) n c) l)(hn:n<4611686018427387904):
  Calls Tryz.prog 110 #[.slice (some ⟨g,0,none⟩) n c,.func (.func 111) #[] #[]] w fun e w'=>e=.returned (.tuple #[])∧
   ∃l':List Rg,(l'.Perm l∧l'.Pairwise (fun x y=>x.lo≤y.lo))∧RowG B w' (.slice (some ⟨g,0,none⟩) n c) l'∧w.grownBy w' (some g):=by
 obtain rfl:=hrow.cap'
 have eg:∀args w,(callFunc 111 args).run Tryz.prog w=.ok (.enter 111 args) w:=enters_of Tryz.func111 (by kernel_rfl) rfl
 have hcon:=AnyQ.slices_SortFunc Tryz.sortRng 2 isAggRng sizeRng Rg.enc Rg.enc_len (fun x v hv=>by simp [Rg.enc]at hv;rcases hv with rfl|rfl<;>rfl) (fun x y=>Lib.compareInt x.lo y.lo) swoLo 111 #[] g 0 c l.toArray w eg (fun _ _ _ _ x y=>cmp_any x y _) (RowR.holdsK Rg.enc_len (by omega) hrow) (hrow.lt rfl).2 (by simpa using hn)
 refine hcon.mono ?_
 rintro e w' ⟨he,d',m,os,hp,hs,rfl⟩
 obtain⟨h1,h2,h3⟩:=sortedK_list hp hs
 refine⟨he,d'.toList,⟨h2,h3.imp fun {x y} h=>by rw [ltLo]at h;simpa using h⟩,?_,grownBy_sortedK _⟩
 have:=RowR.sortedK Rg.enc_len (by omega) hrow (m:=m) (os:=os) d'.toList h1
 simpa using this
theorem iJoinR_any (v:Value)(S:List Rg)(w:World)(hv:HasG w v S)(hn:S.length≤274877906944)(hok:∀x∈S,x.ok)(hso:S.Pairwise (fun x y=>x.lo≤y.lo)):
  Calls Tryz.prog 112 #[v] w fun e w'=>∃(v':Value) (J:List Rg),e=.returned v'∧Joined S J∧RowG w.heap.size w' v' J∧Below w.heap.size w w':=by
 obtain⟨A,cap,rfl,hn',hc⟩:=hv
 obtain⟨n,hnn⟩:∃n,n=S.length:=⟨_,rfl⟩
 have HN:Hid (n=S.length):=hid hnn
 rw [←hnn]at hn hn' ⊢
 clear hnn
 have HBN:=hid hn
 have HOK:=hid hok
 have HSO:=hid hso
 clear hn hok hso
 have hrow0:RowG w.heap.size (w.alloc (.cells #[] 80)) (.slice (some ⟨w.heap.size,0,none⟩) 0 0) []:=rowG_new w _ (Nat.le_refl _)
 have hb0:Below w.heap.size w (w.alloc (.cells #[] 80)):=below_al (Below.refl _ _) _
 go_enter Tryz.func112,Tryz.ntmps112
 go_wp2
 go_loopw [3,10] (fun u i wr=>∃(k m g c:Nat) (J:List Rg),k≤n∧m≤k∧i=.int .i64 k∧u=.slice (some ⟨g,0,none⟩) m c∧Hid (m=J.length)∧RowG w.heap.size wr (.slice (some ⟨g,0,none⟩) m c) J∧Hid (Joined (S.take k) J)∧Below w.heap.size w wr) (fun _ i _=>n-(intOf i).toNat)
 case atStart=>exact⟨0,0,w.heap.size,0,[],by omega,by omega,rfl,rfl,hid rfl,hrow0,hid Joined.start,hb0⟩
 case round=>
  obtain⟨k,m,g,c,J,hk,hm,rfl,rfl,HL,hrow,HJ,hbel⟩:=hrel
  clear hrow0 hb0
  by_cases hlt:k<n
  ·have hli:k<S.length:=by rw [←HN.out];exact hlt
   obtain⟨a,rfl,hab,hcell0⟩:=HasG.gk hc k hli
   obtain⟨x,hx⟩:∃x,x=S[k]:=⟨_,rfl⟩
   rw [←hx]at hcell0
   obtain⟨c0,c1⟩:=hcell0.below hbel hab
   have HX:Hid (S.take (k+1)=S.take k++ [x]):=hid (by rw [List.take_succ_eq_append_getElem hli,hx])
   have HO:Hid x.ok:=hid (by rw [hx];exact HOK.out _ (List.getElem_mem hli))
   have HP:Hid (∀p∈S.take k,p.lo≤x.lo):=hid fun p hp=>by
    obtain⟨j,hj,rfl⟩:=List.getElem_of_mem hp
    rw [List.length_take]at hj
    rw [List.getElem_take,hx]
    exact(List.pairwise_iff_getElem.1 HSO.out) j k (by omega) hli (by omega)
   clear hx hcell0 hc
   obtain⟨wo,rfl⟩:∃wo,wo=wr:=⟨_,rfl⟩
   have hrowx:RowG w.heap.size (wo.alloc (.cells #[.int .i64 x.lo,.int .i64 x.hi] 80)) (.slice (some ⟨g,0,none⟩) m c) J:=RowR.alloc hrow _
   have hbox:=rowG_box wo x w.heap.size hbel.size
   have hgb:=(hrow.lt rfl)
   have hbelx:=below_al hbel (.cells #[.int .i64 x.lo,.int .i64 x.hi] 80)
   have HM:Hid (m+1≤549755813888):=hid (by have:=HBN.out;omega)
   clear hrow
   rcases Nat.eq_zero_or_pos m with rfl|hmp
   ·obtain rfl:J=[]:=List.length_eq_zero_iff.1 HL.out.symm
    have HJ2:=hid (HJ.out.add HO.out (by simp))
    have HR:=hid hrowx
    have HBX:=hid hbox
    have HBL:=hid hbelx
    clear hrowx hbox hbelx
    go_wp2
    go_quiet (fail)
    have h0:RowG w.heap.size ((wo.alloc (.cells #[.int .i64 x.lo,.int .i64 x.hi] 80)).drewN nq) (.slice (some ⟨g,0,none⟩) 0 c) []:=HR.out
    have hx0:RowG w.heap.size ((wo.alloc (.cells #[.int .i64 x.lo,.int .i64 x.hi] 80)).drewN nq) (.slice (some ⟨wo.heap.size,0,none⟩) 1 1) [x]:=HBX.out
    have hb1:=below_drewN HBL.out nq
    generalize ((wo.alloc (.cells #[.int .i64 x.lo,.int .i64 x.hi] 80)).drewN nq)=w3 at h0 hx0 hb1 ⊢
    obtain⟨e0,e1,f0,f1⟩:=RowG.box hx0
    go_wp2_with (at_builtin;refine wpList_rng_append rfl _ _ rfl w.heap.size g 0 c [] (by rfl) h0 x _ (by rfl) rfl HM.out hb1.size (0+1) rfl ?_;intro g' c' w4 hrow4 hg4)
    go_roundw
    case rel=>exact⟨k+1,0+1,g',c',[]++ [x],by omega,by omega,by go_num,rfl,hid rfl,hrow4,by rw [HX.out];exact HJ2,(below_al hb1 _).grown hg4 (below_al hb1 _).size (fun _ h=>by cases h;exact hgb.1)⟩
    case measure=>simp [intOf];omega
   ·obtain⟨j,rfl⟩:∃j,m=j+1:=⟨m-1,by omega⟩
    obtain⟨K,z,hKz⟩:∃K z,J=K++ [z]:=⟨J.dropLast,J.getLast (by have:=HL.out;intro e;rw [e]at this;simp at this),(List.dropLast_concat_getLast _).symm⟩
    subst hKz
    have HKL:Hid (j=K.length):=hid (by have:=HL.out;simp at this;omega)
    have hz1:=HJ.out.nj.2 z (by simp)
    obtain⟨z1,z2,z3⟩:=hz1
    have hzh:-1000000000≤z.hi:=by omega
    have hw1:IntKind.i64.wrap (z.hi+1)=z.hi+1:=IntWalk.i64_in _ (by omega)
    have HZC:Hid (∀W,RowG w.heap.size W (.slice (some ⟨g,0,none⟩) (j+1) c) (K++ [z])→(W.cell? ⟨g,j*2,none⟩=some (.int .i64 z.lo)∧W.cell? ⟨g,j*2+1,none⟩=some (.int .i64 z.hi))∧W.frozen? ⟨g,j*2,none⟩=false∧W.frozen? ⟨g,j*2+1,none⟩=false):=hid fun W h=>by
     have:=RowG.cells h (i:=j) (by have:=HKL.out;simp;omega)
     have e:(K++ [z])[j]'(by have:=HKL.out;simp;omega)=z:=by have:=HKL.out;simp [this]
     rw [e]at this;exact this
    have HR:=hid hrowx
    have HBX:=hid hbox
    have HBL:=hid hbelx
    clear hrowx hbox hbelx
    have hjc:j+1≤c:=HR.out.cap
    have hj0:(0:Int)≤(j:Int):=by omega
    have hjj:(j:Int)<(j:Int)+1:=by omega
    have hzc:=HZC.out _ HR.out
    obtain⟨⟨d0,d1⟩,df0,df1⟩:=hzc
    by_cases hq:x.lo≤z.hi+1
    ·have hq':decide (x.lo≤z.hi+1)=true:=decide_eq_true hq
     have HJ2:=hid (HJ.out.grow HO.out HP.out hq)
     go_wp2
     go_quiet (fail)
     have h0:RowG w.heap.size ((wo.alloc (.cells #[.int .i64 x.lo,.int .i64 x.hi] 80)).drewN nq) (.slice (some ⟨g,0,none⟩) (j+1) c) (K++ [z]):=HR.out
     have hx0:RowG w.heap.size ((wo.alloc (.cells #[.int .i64 x.lo,.int .i64 x.hi] 80)).drewN nq) (.slice (some ⟨wo.heap.size,0,none⟩) 1 1) [x]:=HBX.out
     have hb1:=below_drewN HBL.out nq
     clear d0 d1 df0 df1
     generalize ((wo.alloc (.cells #[.int .i64 x.lo,.int .i64 x.hi] 80)).drewN nq)=w3 at h0 hx0 hb1 ⊢
     obtain⟨e0,e1,f0,f1⟩:=RowG.box hx0
     have hzc:=HZC.out _ h0
     obtain⟨⟨d0,d1⟩,df0,df1⟩:=hzc
     go_wp2
     go_still_tail 12,(by kernel_rfl)
     still_call ((iMax_any z.hi x.hi _).mono fun _ _ ⟨h1,h2⟩=>⟨h1,h2.symm⟩)
     repeat still_step
     refine wpStill_nil ?_
     change wpList _ _ _ _ _ w3.drew
     have h6:RowG w.heap.size w3.drew (.slice (some ⟨g,0,none⟩) (j+1) c) (K++ [z]):=h0
     have hb6:=hb1.drew
     clear d0 d1 df0 df1 e0 e1 f0 f1 h0 hx0 hb1
     generalize w3.drew=w6 at h6 hb6 ⊢
     have hzc:=HZC.out _ h6
     obtain⟨⟨d0,d1⟩,df0,df1⟩:=hzc
     have HPUT:=hid (RowG.put1 h6 (i:=j) (by have:=HKL.out;simp;omega) (max z.hi x.hi))
     have HSET:Hid ((K++ [z]).set j ⟨((K++ [z])[j]'(by have:=HKL.out;simp;omega)).lo,max z.hi x.hi⟩=K++ [⟨z.lo,max z.hi x.hi⟩]):=hid (by have:=HKL.out;subst this;simp)
     clear h6
     go_wp2
     go_roundw
     case rel=>exact⟨k+1,j+1,g,c,K++ [⟨z.lo,max z.hi x.hi⟩],by omega,by omega,by go_num,rfl,hid (by rw [List.length_append,←HKL.out];rfl),by rw [←HSET.out];exact HPUT.out.1,by rw [HX.out];exact HJ2,hb6.grown HPUT.out.2 hb6.size (fun _ h=>by cases h;exact hgb.1)⟩
     case measure=>simp [intOf];omega
    ·have hq':decide (x.lo≤z.hi+1)=false:=decide_eq_false hq
     have HJ2:=hid (HJ.out.add HO.out (HJ.out.far hq))
     go_wp2
     go_quiet (fail)
     have h0:RowG w.heap.size ((wo.alloc (.cells #[.int .i64 x.lo,.int .i64 x.hi] 80)).drewN nq) (.slice (some ⟨g,0,none⟩) (j+1) c) (K++ [z]):=HR.out
     have hx0:RowG w.heap.size ((wo.alloc (.cells #[.int .i64 x.lo,.int .i64 x.hi] 80)).drewN nq) (.slice (some ⟨wo.heap.size,0,none⟩) 1 1) [x]:=HBX.out
     have hb1:=below_drewN HBL.out nq
     clear d0 d1 df0 df1
     generalize ((wo.alloc (.cells #[.int .i64 x.lo,.int .i64 x.hi] 80)).drewN nq)=w3 at h0 hx0 hb1 ⊢
     obtain⟨e0,e1,f0,f1⟩:=RowG.box hx0
     go_wp2_with (at_builtin;refine wpList_rng_append rfl _ _ rfl w.heap.size g (j+1) c (K++ [z]) (by rfl) h0 x _ (by rfl) rfl HM.out hb1.size (j+1+1) rfl ?_;intro g' c' w4 hrow4 hg4)
     go_roundw
     case rel=>exact⟨k+1,j+1+1,g',c',(K++ [z])++ [x],by omega,by omega,by go_num,rfl,hid (by have:=HL.out;rw [List.length_append,←this];rfl),hrow4,by rw [HX.out];exact HJ2,(below_al hb1 _).grown hg4 (below_al hb1 _).size (fun _ h=>by cases h;exact hgb.1)⟩
     case measure=>simp [intOf];omega
  ·go_wp2
   go_ret
   have e:k=n:=by omega
   subst e
   have h:=HJ.out
   rw [List.take_of_length_le (by rw [←HN.out];exact Nat.le_refl _)]at h
   exact⟨_,J,rfl,h,hrow,hbel⟩
end
section
open Go.RowKit

structure Inn (w0:World) (g m c:Nat) (L:List Rg) (bx gl cl gr cr:Nat) (a b:List Rg) (x:Rg) (W:World):Prop where
 out:RowG w0.heap.size W (.slice (some ⟨g,0,none⟩) m c) L
 box:RowG w0.heap.size W (.slice (some ⟨bx,0,none⟩) 1 1) [x]
 left:RowG (bx+1) W (.slice (some ⟨gl,0,none⟩) a.length cl) a
 right:RowG (bx+1) W (.slice (some ⟨gr,0,none⟩) b.length cr) b
 lt:g<bx
 ne:gl≠gr
 bel:Below w0.heap.size w0 W
section
variable {w0 W W':World} {g m c bx gl cl gr cr gl' cl':Nat} {L a b:List Rg} {x y:Rg}
theorem Inn.low (h:Inn w0 g m c L bx gl cl gr cr a b x W):w0.heap.size≤bx∧bx<W.heap.size∧bx<gl∧gl<W.heap.size∧bx<gr∧gr<W.heap.size:=
 ⟨(h.box.lt rfl).1,(h.box.lt rfl).2,(h.left.lt rfl).1,(h.left.lt rfl).2,(h.right.lt rfl).1,(h.right.lt rfl).2⟩
theorem Inn.drewN (h:Inn w0 g m c L bx gl cl gr cr a b x W)(q:Nat):Inn w0 g m c L bx gl cl gr cr a b x (W.drewN q):=⟨h.out,h.box,h.left,h.right,h.lt,h.ne,below_drewN h.bel q⟩
theorem Inn.addL (h:Inn w0 g m c L bx gl cl gr cr a b x W){o:Obj}(hr:RowG (bx+1) W' (.slice (some ⟨gl',0,none⟩) (a++ [y]).length cl') (a++ [y]))(hg:(W.alloc o).grownBy W' (some gl))(hp:gl'=gl∨W.heap.size<gl'):Inn w0 g m c L bx gl' cl' gr cr (a++ [y]) b x W':=by
 obtain⟨l1,l2,l3,l4,l5,l6⟩:=h.low
 have hlt:=h.lt
 have hne:=h.ne
 exact⟨(RowR.alloc h.out o).apart hg (by omega),(RowR.alloc h.box o).apart hg (by omega),hr,(RowR.alloc h.right o).apart hg (fun e=>hne e.symm),hlt,by omega,(below_al h.bel o).grown hg (below_al h.bel o).size (fun k hk=>by cases hk;omega)⟩
theorem Inn.addR (h:Inn w0 g m c L bx gl cl gr cr a b x W){o:Obj}(hr:RowG (bx+1) W' (.slice (some ⟨gl',0,none⟩) (b++ [y]).length cl') (b++ [y]))(hg:(W.alloc o).grownBy W' (some gr))(hp:gl'=gr∨W.heap.size<gl'):Inn w0 g m c L bx gl cl gl' cl' a (b++ [y]) x W':=by
 obtain⟨l1,l2,l3,l4,l5,l6⟩:=h.low
 have hlt:=h.lt
 have hne:=h.ne
 exact⟨(RowR.alloc h.out o).apart hg (by omega),(RowR.alloc h.box o).apart hg (by omega),(RowR.alloc h.left o).apart hg hne,hr,hlt,by omega,(below_al h.bel o).grown hg (below_al h.bel o).size (fun k hk=>by cases hk;omega)⟩
theorem Inn.put (h:Inn w0 g m c L bx gl cl gr cr a b x W)(y:Rg):Inn w0 g m c L bx gl cl gr cr a b y ((W.setCell ⟨bx,0,none⟩ (.int .i64 y.lo)).setCell ⟨bx,1,none⟩ (.int .i64 y.hi)):=by
 obtain⟨l1,l2,l3,l4,l5,l6⟩:=h.low
 have hlt:=h.lt
 obtain⟨p1,p2⟩:=RowG.boxPut h.box y
 exact⟨h.out.apart p2 (by omega),p1,h.left.apart p2 (by omega),h.right.apart p2 (by omega),hlt,h.ne,h.bel.grown p2 h.bel.size (fun k hk=>by cases hk;omega)⟩
end
theorem sNorm_any (v:Value)(l:List Rg)(w:World)(hv:HasG w v l)(hn:l.length≤274877906944):
  Calls Tryz.prog 76 #[v] w fun e w'=>∃v',e=.returned v'∧RowG w.heap.size w' v' (normS l)∧Below w.heap.size w w':=by
 obtain⟨A,cap,rfl,hn',hc⟩:=hv
 obtain⟨n,hnn⟩:∃n,n=l.length:=⟨_,rfl⟩
 have HN:Hid (n=l.length):=hid hnn
 rw [←hnn]at hn hn' ⊢
 clear hnn
 have HBN:=hid hn
 clear hn
 have hrow0:RowG w.heap.size (w.alloc (.cells #[] 80)) (.slice (some ⟨w.heap.size,0,none⟩) 0 0) []:=rowG_new w _ (Nat.le_refl _)
 have hb0:Below w.heap.size w (w.alloc (.cells #[] 80)):=below_al (Below.refl _ _) _
 go_enter Tryz.func76,Tryz.ntmps76
 go_wp2
 go_loopw [3,4] (fun u i wr=>∃(i0 m g c:Nat) (L:List Rg),i0≤n∧m≤i0∧i=.int .i64 i0∧u=.slice (some ⟨g,0,none⟩) m c∧Hid (m=L.length)∧RowG w.heap.size wr (.slice (some ⟨g,0,none⟩) m c) L∧Hid (IsNrm (l.take i0) L)∧Below w.heap.size w wr) (fun _ i _=>n-(intOf i).toNat)
 case atStart=>exact⟨0,0,w.heap.size,0,[],by omega,by omega,rfl,rfl,hid rfl,hrow0,hid isNrm_nil,hb0⟩
 case round=>
  obtain⟨i0,m,g,c,L,hi0,hm,rfl,rfl,HL,hrow,HS,hbel⟩:=hrel
  clear hrow0 hb0
  by_cases hlt:i0<n
  ·have hli:i0<l.length:=by rw [←HN.out];exact hlt
   obtain⟨a,rfl,hab,hcell0⟩:=HasG.gk hc i0 hli
   obtain⟨x,hx⟩:∃x,x=l[i0]:=⟨_,rfl⟩
   rw [←hx]at hcell0
   obtain⟨c0,c1⟩:=hcell0.below hbel hab
   have HX:Hid (l.take (i0+1)=l.take i0++ [x]):=hid (by rw [List.take_succ_eq_append_getElem hli,hx])
   clear hx hcell0 hc
   have hrowx:RowG w.heap.size (wr.alloc (.cells #[.int .i64 x.lo,.int .i64 x.hi] 80)) (.slice (some ⟨g,0,none⟩) m c) L:=RowR.alloc hrow _
   have hbelx:=below_al hbel (.cells #[.int .i64 x.lo,.int .i64 x.hi] 80)
   by_cases a1:x.hi<x.lo
   ·have HB:=hid (HS.out.skip (x0:=x) (fun h=>by have:=h.1;omega))
    go_wp2
    go_roundw
    case rel=>exact⟨i0+1,m,g,c,L,by omega,by omega,by go_num,rfl,HL,hrowx,by rw [HX.out];exact HB,hbelx⟩
    case measure=>simp [intOf];omega
   ·have b1:decide (x.hi<x.lo)=false:=by simpa using a1
    by_cases a2:x.lo < -1000000000
    ·have HB:=hid (HS.out.skip (x0:=x) (fun h=>by have:=h.2.1;omega))
     go_wp2
     go_roundw
     case rel=>exact⟨i0+1,m,g,c,L,by omega,by omega,by go_num,rfl,HL,hrowx,by rw [HX.out];exact HB,hbelx⟩
     case measure=>simp [intOf];omega
    ·have b2:decide (x.lo < -1000000000)=false:=by simpa using a2
     by_cases a3:1000000000<x.hi
     ·have HB:=hid (HS.out.skip (x0:=x) (fun h=>by have:=h.2.2;omega))
      go_wp2
      go_roundw
      case rel=>exact⟨i0+1,m,g,c,L,by omega,by omega,by go_num,rfl,HL,hrowx,by rw [HX.out];exact HB,hbelx⟩
      case measure=>simp [intOf];omega
     ·have b3:decide (1000000000<x.hi)=false:=by simpa using a3
      have HO:Hid x.ok:=hid ⟨by omega,by omega,by omega⟩
      obtain⟨wx,hwx⟩:∃wx,wx=wr.alloc (.cells #[.int .i64 x.lo,.int .i64 x.hi] 80):=⟨_,rfl⟩
      have hin0:Inn w g m c L wr.heap.size (wr.heap.size+1) 0 (wr.heap.size+1+1) 0 [] [] x ((wx.alloc (.cells #[] 80)).alloc (.cells #[] 80)):=by
       subst hwx
       refine⟨RowR.alloc (RowR.alloc hrowx _) _,RowR.alloc (RowR.alloc (rowG_box wr x w.heap.size hbel.size) _) _,RowR.alloc ?_ _,?_,(hrow.lt rfl).2,by omega,below_al (below_al hbelx _) _⟩
       ·have:=rowG_new (wr.alloc (.cells #[.int .i64 x.lo,.int .i64 x.hi] 80)) (wr.heap.size+1) (by simp)
        simpa using this
       ·have:=rowG_new ((wr.alloc (.cells #[.int .i64 x.lo,.int .i64 x.hi] 80)).alloc (.cells #[] 80)) (wr.heap.size+1) (by simp)
        simpa using this
      subst hwx
      clear hrow hrowx hbelx
      go_wp2
      obtain⟨wo,rfl⟩:∃wo,wo=wr:=⟨_,rfl⟩
      go_loopw [6,7,8] (fun u6 u7 u8 w2=>∃(k la lb gl cl gr cr:Nat) (A B:List Rg) (z:Rg),k≤m∧la≤k∧lb≤k∧u8=.int .i64 k∧u6=.slice (some ⟨gl,0,none⟩) la cl∧u7=.slice (some ⟨gr,0,none⟩) lb cr∧Hid (la=A.length∧lb=B.length)∧Hid (Inn w g m c L wo.heap.size gl cl gr cr A B z w2)∧Hid (Split (L.take k) x A z B)) (fun _ _ u8 _=>m-(intOf u8).toNat)
      case atStart=>exact⟨0,0,0,wo.heap.size+1,0,wo.heap.size+1+1,0,[],[],x,by omega,by omega,by omega,rfl,by simp,by simp,hid ⟨rfl,rfl⟩,hid hin0,hid (Split.start HO.out)⟩
      case round=>
       obtain⟨k,la,lb,gl,cl,gr,cr,A,B,z,hk,hla,hlb,rfl,rfl,rfl,HLL,HI,HSP⟩:=hrel
       clear hin0
       have hin:=HI.out
       obtain⟨l1,l2,l3,l4,l5,l6⟩:=hin.low
       obtain⟨e0,e1,f0,f1⟩:=RowG.box hin.box
       have hzo:=HSP.out.okx
       obtain⟨z1,z2,z3⟩:=hzo
       have hzh:-1000000000≤z.hi:=by omega
       have hzl:z.lo≤1000000000:=by omega
       have hbi:=HBN.out
       have hla2:la+1≤549755813888:=by omega
       have hlb2:lb+1≤549755813888:=by omega
       have hlab2:la+1+lb≤549755813888:=by have:=HSP.out.len;have:=HLL.out;have:=HL.out;rw [List.length_take]at*;omega
       have HZ:Hid (la+1≤549755813888∧lb+1≤549755813888∧la+1+lb≤549755813888):=hid ⟨hla2,hlb2,hlab2⟩
       clear hbi hla2 hlb2 hlab2
       by_cases hkm:k<m
       ·have hkL:k<L.length:=by rw [←HL.out];exact hkm
        have hcy:=RowG.cells hin.out hkL
        obtain⟨⟨d0,d1⟩,_,_⟩:=hcy
        have hyk:=nrm_get HS.out.1 hkL
        obtain⟨y,hy⟩:∃y,y=L[k]:=⟨_,rfl⟩
        rw [←hy]at d0 d1 hyk
        have HY:Hid (L.take (k+1)=L.take k++ [y]):=hid (by rw [List.take_succ_eq_append_getElem hkL,hy])
        have HYP:Hid (y.ok∧∀p∈L.take k,p.bef y):=hid hyk
        obtain⟨⟨y1,y2,y3⟩,_⟩:=hyk
        clear hy
        have hyh:-1000000000≤y.hi:=by omega
        have hyl:y.lo≤1000000000:=by omega
        have hmc:m≤c:=(RowR.cap hin.out)
        have hw1:IntKind.i64.wrap (y.hi+1)=y.hi+1:=IntWalk.i64_in _ (by omega)
        have hw2:IntKind.i64.wrap (z.hi+1)=z.hi+1:=IntWalk.i64_in _ (by omega)
        have hgl:=hin.left
        have hgr:=hin.right
        rw [←HLL.out.1]at hgl
        rw [←HLL.out.2]at hgr
        clear hin
        by_cases q1:y.hi+1<z.lo
        ·have q1':decide (y.hi+1<z.lo)=true:=decide_eq_true q1
         have HSP2:=hid (HSP.out.left HYP.out.1 HYP.out.2 q1)
         go_wp2
         go_quiet (fail)
         have hgl3:RowG (wo.heap.size+1) (wr.drewN nq) (.slice (some ⟨gl,0,none⟩) la cl) A:=hgl
         have d0':(wr.drewN nq).cell? ⟨g,k*2,none⟩=some (.int .i64 y.lo):=d0
         have d1':(wr.drewN nq).cell? ⟨g,k*2+1,none⟩=some (.int .i64 y.hi):=d1
         have hin3:=hid (HI.out.drewN nq)
         clear d0 d1 e0 e1 f0 f1 hgl hgr HI
         have l2':wo.heap.size+1≤(wr.drewN nq).heap.size:=l2
         generalize wr.drewN nq=w3 at hgl3 d0' d1' hin3 l2' ⊢
         go_wp2_with (at_builtin;refine wpList_rng_append_at rfl _ _ rfl (wo.heap.size+1) gl la cl A (by rfl) hgl3 y _ (by rfl) rfl HZ.out.1 l2' (la+1) rfl ?_;intro g' c' w4 hrow4 hg4 hp4)
         go_roundw
         case rel=>exact⟨k+1,la+1,lb,g',c',gr,cr,A++ [y],B,z,by omega,by omega,by omega,by go_num,rfl,rfl,hid ⟨by rw [List.length_append,←HLL.out.1];rfl,HLL.out.2⟩,hid (hin3.out.addL (by rw [List.length_append,←HLL.out.1];exact hrow4) hg4 hp4),by rw [HY.out];exact HSP2⟩
         case measure=>simp [intOf];omega
        ·have q1':decide (y.hi+1<z.lo)=false:=decide_eq_false q1
         by_cases q2:z.hi+1<y.lo
         ·have q2':decide (z.hi+1<y.lo)=true:=decide_eq_true q2
          have HSP2:=hid (HSP.out.right HYP.out.1 HYP.out.2 q2)
          go_wp2
          go_quiet (fail)
          have d0':(wr.drewN nq).cell? ⟨g,k*2,none⟩=some (.int .i64 y.lo):=d0
          have d1':(wr.drewN nq).cell? ⟨g,k*2+1,none⟩=some (.int .i64 y.hi):=d1
          have e0':(wr.drewN nq).cell? ⟨wo.heap.size,0,none⟩=some (.int .i64 z.lo):=e0
          have e1':(wr.drewN nq).cell? ⟨wo.heap.size,1,none⟩=some (.int .i64 z.hi):=e1
          have hin3:=hid (HI.out.drewN nq)
          clear d0 d1 e0 e1 f0 f1 hgl hgr HI l1 l2 l3 l4 l5 l6 hbel
          generalize wr.drewN nq=w3 at d0' d1' e0' e1' hin3 ⊢
          clear nq
          go_wp2
          go_quiet (fail)
          have hgr3:RowG (wo.heap.size+1) (w3.drewN nq) (.slice (some ⟨gr,0,none⟩) lb cr) B:=by rw [HLL.out.2];exact hin3.out.right
          have d0:(w3.drewN nq).cell? ⟨g,k*2,none⟩=some (.int .i64 y.lo):=d0'
          have d1:(w3.drewN nq).cell? ⟨g,k*2+1,none⟩=some (.int .i64 y.hi):=d1'
          have l2':wo.heap.size+1≤(w3.drewN nq).heap.size:=hin3.out.low.2.1
          have hin4:=hid (hin3.out.drewN nq)
          clear d0' d1' e0' e1' hin3
          generalize w3.drewN nq=w5 at d0 d1 hgr3 l2' hin4 ⊢
          go_wp2_with (at_builtin;refine wpList_rng_append_at rfl _ _ rfl (wo.heap.size+1) gr lb cr B (by rfl) hgr3 y _ (by rfl) rfl HZ.out.2.1 l2' (lb+1) rfl ?_;intro g' c' w4 hrow4 hg4 hp4)
          go_roundw
          case rel=>exact⟨k+1,la,lb+1,gl,cl,g',c',A,B++ [y],z,by omega,by omega,by omega,by go_num,rfl,rfl,hid ⟨HLL.out.1,by rw [List.length_append,←HLL.out.2];rfl⟩,hid (hin4.out.addR (by rw [List.length_append,←HLL.out.2];exact hrow4) hg4 hp4),by rw [HY.out];exact HSP2⟩
          case measure=>simp [intOf];omega
         ·have q2':decide (z.hi+1<y.lo)=false:=decide_eq_false q2
          have HSP2:=hid (HSP.out.both HYP.out.1 HYP.out.2 q1 q2)
          go_wp2
          go_quiet (fail)
          have d0':(wr.drewN nq).cell? ⟨g,k*2,none⟩=some (.int .i64 y.lo):=d0
          have d1':(wr.drewN nq).cell? ⟨g,k*2+1,none⟩=some (.int .i64 y.hi):=d1
          have e0':(wr.drewN nq).cell? ⟨wo.heap.size,0,none⟩=some (.int .i64 z.lo):=e0
          have e1':(wr.drewN nq).cell? ⟨wo.heap.size,1,none⟩=some (.int .i64 z.hi):=e1
          have hin3:=hid (HI.out.drewN nq)
          clear d0 d1 e0 e1 f0 f1 hgl hgr HI l1 l2 l3 l4 l5 l6 hbel
          generalize wr.drewN nq=w3 at d0' d1' e0' e1' hin3 ⊢
          clear nq
          go_wp2
          go_quiet (fail)
          have d0:(w3.drewN nq).cell? ⟨g,k*2,none⟩=some (.int .i64 y.lo):=d0'
          have d1:(w3.drewN nq).cell? ⟨g,k*2+1,none⟩=some (.int .i64 y.hi):=d1'
          have hin4:=hid (hin3.out.drewN nq)
          have hbox:=RowG.box hin4.out.box
          obtain⟨e0,e1,f0,f1⟩:=hbox
          clear d0' d1' e0' e1' hin3
          generalize w3.drewN nq=w5 at d0 d1 e0 e1 f0 f1 hin4 ⊢
          go_wp2
          go_still_tail 17,(by kernel_rfl)
          still_call ((sMin_any z.lo y.lo _).mono fun _ _ ⟨h1,h2⟩=>⟨h1,h2.symm⟩)
          repeat still_step
          still_call ((sMax_any z.hi y.hi _).mono fun _ _ ⟨h1,h2⟩=>⟨h1,h2.symm⟩)
          repeat still_step
          refine wpStill_nil ?_
          change wpList _ _ _ _ _ w5.drew
          have hin5:=hid ((show Inn w g m c L wo.heap.size gl cl gr cr A B z w5.drew from hin4.out.drewN 1).put (z.cup y))
          have e0'':w5.drew.cell? ⟨wo.heap.size,0,none⟩=some (.int .i64 z.lo):=e0
          have e1'':w5.drew.cell? ⟨wo.heap.size,1,none⟩=some (.int .i64 z.hi):=e1
          have f0'':w5.drew.frozen? ⟨wo.heap.size,0,none⟩=false:=f0
          have f1'':w5.drew.frozen? ⟨wo.heap.size,1,none⟩=false:=f1
          clear hin4 e0 e1 f0 f1 d0 d1
          generalize w5.drew=w6 at hin5 e0'' e1'' f0'' f1'' ⊢
          go_wp2
          go_roundw
          case rel=>exact⟨k+1,la,lb,gl,cl,gr,cr,A,B,z.cup y,by omega,by omega,by omega,by go_num,rfl,rfl,HLL,hin5,by rw [HY.out];exact HSP2⟩
          case measure=>simp [intOf];omega
       ·have e:k=m:=by omega
        have hgl:=hin.left
        have hgr:=hin.right
        rw [←HLL.out.1]at hgl
        rw [←HLL.out.2]at hgr
        have HIN:=hid hin
        clear hin HI
        go_wp2_with (first
         |(at_builtin;refine wpList_rng_append_at rfl _ _ rfl (wo.heap.size+1) gl la cl A (by rfl) hgl z _ (by rfl) rfl HZ.out.1 (by have:=HIN.out.low;omega) (la+1) rfl ?_;intro g' c' w4 hrow4 hg4 hp4;have hr4:=(RowR.alloc hgr _).apart hg4 (fun e=>HIN.out.ne e.symm))
         |(at_builtin;refine wpList_rng_appends rfl _ _ rfl (wo.heap.size+1) g' (la+1) c' (A++ [z]) (by rfl) hrow4 (wo.heap.size+1) gr lb cr B (by rfl) hr4 (by omega) HZ.out.2.2 (by have h:=hg4.size;have:=HIN.out.low;simp at h;omega) (la+1+lb) rfl ?_;intro g2 c2 w5 hrow5 hg5))
        have HB5:Hid (Below w.heap.size w w5):=hid (by
         have hl:=HIN.out.low
         have h4:=(below_al HIN.out.bel (.cells #[.int .i64 z.lo,.int .i64 z.hi] 80)).grown hg4 (below_al HIN.out.bel _).size (fun k hk=>by cases hk;omega)
         exact h4.grown hg5 h4.size (fun k hk=>by cases hk;have:=(hrow4.lt rfl).1;omega))
        have HFS:Hid (Split L x A z B):=hid (by have h:=HSP.out;rwa [List.take_of_length_le (by have:=HL.out;omega)]at h)
        have HLEN:Hid (la+1+lb≤i0+1∧la+1+lb=(A++ [z]++B).length):=hid (by
         have h1:=HFS.out.len
         have h2:=HLL.out
         have h3:=HL.out
         simp only [List.length_append,List.length_singleton]
         omega)
        have hr6:RowG w.heap.size w5 (.slice (some ⟨g2,0,none⟩) (la+1+lb) c2) (A++ [z]++B):=hrow5.mono (by have:=HIN.out.low;omega)
        clear hrow5 hrow4 hr4 hgl hgr hg4 hg5
        go_roundw
        case rel=>exact⟨i0+1,la+1+lb,g2,c2,A++ [z]++B,by omega,HLEN.out.1,by go_num,rfl,hid HLEN.out.2,hr6,by rw [HX.out];exact hid (HS.out.put HFS.out HO.out),HB5.out⟩
        case measure=>simp [intOf];omega
  ·go_wp2
   go_ret
   have e:i0=n:=by omega
   subst e
   refine⟨_,rfl,?_,hbel⟩
   have h:=HS.out
   rw [List.take_of_length_le (by rw [←HN.out];exact Nat.le_refl _)]at h
   rw [←h.eq]
   exact hrow
end
section
open Go.RowKit

theorem iNorm_any (v:Value)(l:List Rg)(w:World)(hv:HasG w v l)(hn:l.length≤274877906944):
  Calls Tryz.prog 80 #[v] w fun e w'=>∃v',e=.returned v'∧RowG w.heap.size w' v' (normS l)∧Below w.heap.size w w':=by
 obtain⟨A,cap,rfl,hn',hc⟩:=hv
 obtain⟨n,hnn⟩:∃n,n=l.length:=⟨_,rfl⟩
 have HN:Hid (n=l.length):=hid hnn
 rw [←hnn]at hn hn' ⊢
 clear hnn
 have HBN:=hid hn
 clear hn
 have hrow0:RowG w.heap.size (w.alloc (.cells #[] 80)) (.slice (some ⟨w.heap.size,0,none⟩) 0 0) []:=rowG_new w _ (Nat.le_refl _)
 have hb0:Below w.heap.size w (w.alloc (.cells #[] 80)):=below_al (Below.refl _ _) _
 go_enter Tryz.func80,Tryz.ntmps80
 go_wp2
 go_loopw [3,9] (fun u i wr=>∃(k m g c:Nat) (F:List Rg),k≤n∧m≤k∧i=.int .i64 k∧u=.slice (some ⟨g,0,none⟩) m c∧Hid (F=(l.take k).filter (fun x=>decide x.ok))∧RowG w.heap.size wr (.slice (some ⟨g,0,none⟩) m c) F∧Below w.heap.size w wr) (fun _ i _=>n-(intOf i).toNat)
 case atStart=>exact⟨0,0,w.heap.size,0,[],by omega,by omega,rfl,rfl,hid rfl,hrow0,hb0⟩
 case round=>
  obtain⟨k,m,g,c,F,hk,hm,rfl,rfl,HF,hrow,hbel⟩:=hrel
  clear hrow0 hb0
  by_cases hlt:k<n
  ·have hli:k<l.length:=by rw [←HN.out];exact hlt
   obtain⟨a,rfl,hab,hcell0⟩:=HasG.gk hc k hli
   obtain⟨x,hx⟩:∃x,x=l[k]:=⟨_,rfl⟩
   rw [←hx]at hcell0
   obtain⟨c0,c1⟩:=hcell0.below hbel hab
   have HX:Hid (l.take (k+1)=l.take k++ [x]):=hid (by rw [List.take_succ_eq_append_getElem hli,hx])
   have HM:Hid (m+1≤549755813888):=hid (by have:=HBN.out;omega)
   clear hx hcell0 hc
   have hrowx:RowG w.heap.size (wr.alloc (.cells #[.int .i64 x.lo,.int .i64 x.hi] 80)) (.slice (some ⟨g,0,none⟩) m c) F:=RowR.alloc hrow _
   have hgb:=(hrow.lt rfl).1
   have hbelx:=below_al hbel (.cells #[.int .i64 x.lo,.int .i64 x.hi] 80)
   clear hrow
   by_cases ho:x.ok
   ·have HO:=hid ho
    have HF2:Hid (F++ [x]=(l.take (k+1)).filter (fun x=>decide x.ok)):=hid (by rw [HX.out,List.filter_append,←HF.out];simp [ho])
    clear ho
    go_wp2_with (first
     |(go_at_call 79;refine(ok_yes HO.out _).mono ?_;rintro e w2 ⟨rfl,hb2⟩;obtain⟨b0,b1⟩:=box2 hb2;have hrow2:=RowR.below hrowx hb2;have hbel2:=below_step hbelx hb2;clear hb2 hrowx hbelx)
     |(at_builtin;refine wpList_rng_append rfl _ _ rfl w.heap.size g m c F (by rfl) hrow2 x _ (by rfl) rfl HM.out hbel2.size (m+1) rfl ?_;intro g' c' w4 hrow4 hg4))
    go_roundw
    case rel=>exact⟨k+1,m+1,g',c',F++ [x],by omega,by omega,by go_num,rfl,HF2,hrow4,(below_al hbel2 _).grown hg4 (below_al hbel2 _).size (fun _ h=>by cases h;exact hgb)⟩
    case measure=>simp [intOf];omega
   ·have HO:=hid ho
    have HF2:Hid (F=(l.take (k+1)).filter (fun x=>decide x.ok)):=hid (by rw [HX.out,List.filter_append,←HF.out];simp [ho])
    clear ho
    go_wp2_with (first
     |(go_at_call 79;refine(ok_no HO.out _).mono ?_;rintro e w2 ⟨rfl,hb2⟩;have hrow2:=RowR.below hrowx hb2;have hbel2:=below_step hbelx hb2;clear hb2 hrowx hbelx))
    go_roundw
    case rel=>exact⟨k+1,m,g,c,F,by omega,by omega,by go_num,rfl,HF2,hrow2,hbel2⟩
    case measure=>simp [intOf];omega
  ·have e:k=n:=by omega
   have HF2:Hid (F=l.filter (fun x=>decide x.ok)):=hid (by have:=HF.out;rwa [List.take_of_length_le (by have:=HN.out;omega)]at this)
   have HFL:Hid (m=F.length∧F.length≤274877906944):=hid ⟨hrow.cap',by rw [HF2.out];have h1:=List.length_filter_le (fun x:Rg=>decide x.ok) l;have:=HN.out;have:=HBN.out;omega⟩
   have hgb:=(hrow.lt rfl).1
   have HM:Hid (m<4611686018427387904):=hid (by have:=HFL.out;omega)
   clear hc
   go_wp2_with (first
    |(go_at_call 110;refine(sortRng_any w.heap.size g c m F _ hrow HM.out).mono ?_;rintro e w2 ⟨rfl,S,hS,hrow2,hg2⟩;have HS:=hid hS;have hbel2:=hbel.grown hg2 hbel.size (fun _ h=>by cases h;exact hgb);clear hS hg2)
    |(go_at_call 112;refine(iJoinR_any _ S _ hrow2.hasG (by rw [HS.out.1.length_eq];exact HFL.out.2) (fun x hx=>by have h:=(HS.out.1.mem_iff).1 hx;rw [HF2.out]at h;simpa using (List.mem_filter.1 h).2) HS.out.2).mono ?_;rintro e w3 ⟨v',J,rfl,hJ,hrow3,hb3⟩;have HJ:=hid hJ;clear hJ))
   go_ret
   refine⟨_,rfl,?_,below_step hbel2 hb3⟩
   rw [←(HJ.out.isNrm (l:=l) (by rw [←HF2.out];exact HS.out.1)).eq]
   exact hrow3.mono hbel2.size
theorem meets_snoc (p:List Rg)(x:Rg)(b:List Rg):meets (p++ [x]) b=meets p b++b.map x.cap:=by unfold meets;rw [List.flatMap_append];simp
theorem mul_lt_of {i k na nb:Nat}(hi:i<na)(hk:k<nb):i*nb+k+1≤na*nb:=by
 have h1:(i+1)*nb≤na*nb:=Nat.mul_le_mul_right _ hi
 rw [Nat.succ_mul]at h1;omega
theorem meetS_a {a b:List Rg}(h:a.length=0):meetS a b=normS b:=if_pos h
theorem meetS_b {a b:List Rg}(h:¬a.length=0)(h':b.length=0):meetS a b=normS a:=by unfold meetS;rw [if_neg h,if_pos h']
theorem meetS_c {a b:List Rg}(h:¬a.length=0)(h':¬b.length=0):meetS a b=normS (meets a b):=by unfold meetS;rw [if_neg h,if_neg h']
theorem iMeet_any (u v:Value)(a b:List Rg)(w:World)(hu:HasG w u a)(hv:HasG w v b)(ha:a.length≤1048576)(hb:b.length≤1048576)(hab:a.length*b.length≤274877906944):
  Calls Tryz.prog 41 #[u,v] w fun e w'=>∃v',e=.returned v'∧RowG w.heap.size w' v' (meetS a b)∧Below w.heap.size w w':=by
 have HU:=hid hu
 have HV:=hid hv
 obtain⟨A,capa,rfl,hna',hca⟩:=hu
 obtain⟨A2,capb,rfl,hnb',hcb⟩:=hv
 have HAB:=hid hab
 have HA:=hid ha
 have HB:=hid hb
 by_cases a0:a.length=0
 ·have HS:=hid (meetS_a (b:=b) a0)
  clear hca hcb ha hb hab
  obtain⟨na,hnna⟩:∃n,n=a.length:=⟨_,rfl⟩
  obtain⟨nb,hnnb⟩:∃n,n=b.length:=⟨_,rfl⟩
  rw [←hnna]at hna' HU a0 ⊢
  rw [←hnnb]at hnb' HV ⊢
  clear hnna hnnb
  subst a0
  go_enter Tryz.func41,Tryz.ntmps41
  go_wp2_with (go_at_call 80;refine(iNorm_any _ b _ HV.out (Nat.le_trans HB.out (by omega))).mono ?_;rintro e w1 ⟨v',rfl,hr,hb1⟩)
  go_ret
  exact⟨_,rfl,by rw [HS.out];exact hr,hb1⟩
 ·by_cases b0:b.length=0
  ·have HS:=hid (meetS_b a0 b0)
   clear hca hcb ha hb hab
   obtain⟨na,hnna⟩:∃n,n=a.length:=⟨_,rfl⟩
   obtain⟨nb,hnnb⟩:∃n,n=b.length:=⟨_,rfl⟩
   rw [←hnna]at hna' HU a0 ⊢
   rw [←hnnb]at hnb' HV b0 ⊢
   clear hnna hnnb
   subst b0
   have ha0:((na:Int)==0)=false:=by simpa using a0
   go_enter Tryz.func41,Tryz.ntmps41
   go_wp2_with (go_at_call 80;refine(iNorm_any _ a _ HU.out (Nat.le_trans HA.out (by omega))).mono ?_;rintro e w1 ⟨v',rfl,hr,hb1⟩)
   go_ret
   exact⟨_,rfl,by rw [HS.out];exact hr,hb1⟩
  ·have HS:=hid (meetS_c a0 b0)
   clear ha hb hab
   obtain⟨na,hnna⟩:∃n,n=a.length:=⟨_,rfl⟩
   obtain⟨nb,hnnb⟩:∃n,n=b.length:=⟨_,rfl⟩
   have HNA:=hid hnna
   have HNB:=hid hnnb
   rw [←hnna]at hna' HU a0 ⊢
   rw [←hnnb]at hnb' HV b0 ⊢
   clear hnna hnnb
   have ha0:((na:Int)==0)=false:=by simpa using a0
   have hb0:((nb:Int)==0)=false:=by simpa using b0
   have hrow0:RowG w.heap.size (w.alloc (.cells #[] 80)) (.slice (some ⟨w.heap.size,0,none⟩) 0 0) []:=rowG_new w _ (Nat.le_refl _)
   have hbel0:Below w.heap.size w (w.alloc (.cells #[] 80)):=below_al (Below.refl _ _) _
   go_enter Tryz.func41,Tryz.ntmps41
   go_wp2
   go_loopw [5,23] (fun u i wr=>∃(i0 m g c:Nat) (O:List Rg),i0≤na∧i=.int .i64 i0∧u=.slice (some ⟨g,0,none⟩) m c∧Hid (O=meets (a.take i0) b)∧RowG w.heap.size wr (.slice (some ⟨g,0,none⟩) m c) O∧Below w.heap.size w wr) (fun _ i _=>na-(intOf i).toNat)
   case atStart=>exact⟨0,0,w.heap.size,0,[],by omega,rfl,rfl,hid rfl,hrow0,hbel0⟩
   case round=>
    obtain⟨i0,m,g,c,O,hi0,rfl,rfl,HO,hrow,hbel⟩:=hrel
    clear hrow0 hbel0
    by_cases hlt:i0<na
    ·have hli:i0<a.length:=by rw [←HNA.out];exact hlt
     obtain⟨p,rfl,hp,hcellp⟩:=HasG.gk hca i0 hli
     obtain⟨x,hx⟩:∃x,x=a[i0]:=⟨_,rfl⟩
     rw [←hx]at hcellp
     have HX:Hid (a.take (i0+1)=a.take i0++ [x]):=hid (by rw [List.take_succ_eq_append_getElem hli,hx])
     have hcx:=hcellp.below hbel hp
     obtain⟨c0,c1⟩:=hcx
     clear hx hcellp hca
     obtain⟨I,rfl⟩:∃I,I=i0:=⟨_,rfl⟩
     obtain⟨wo,rfl⟩:∃wo,wo=wr:=⟨_,rfl⟩
     have hrow1:RowG w.heap.size (wo.alloc (.cells #[.int .i64 x.lo,.int .i64 x.hi] 80)) (.slice (some ⟨g,0,none⟩) m c) O:=RowR.alloc hrow _
     have hbx:=rowG_box wo x w.heap.size hbel.size
     have hbel1:=below_al hbel (.cells #[.int .i64 x.lo,.int .i64 x.hi] 80)
     have hgo:g≠wo.heap.size:=Nat.ne_of_lt (hrow.lt rfl).2
     have HBO:Hid (w.heap.size≤wo.heap.size):=hid hbel.size
     clear hrow hbel
     go_wp2
     clear c0 c1
     go_loopw [5,29] (fun u kk wr=>∃(k m g c:Nat) (O:List Rg),k≤nb∧kk=.int .i64 k∧u=.slice (some ⟨g,0,none⟩) m c∧Hid (O=meets (a.take I) b++(b.take k).map x.cap)∧Hid (g≠wo.heap.size)∧RowG w.heap.size wr (.slice (some ⟨g,0,none⟩) m c) O∧RowG w.heap.size wr (.slice (some ⟨wo.heap.size,0,none⟩) 1 1) [x]∧Below w.heap.size w wr) (fun _ kk _=>nb-(intOf kk).toNat)
     case atStart=>exact⟨0,m,g,c,O,by omega,rfl,rfl,hid (by rw [HO.out];simp),hid hgo,hrow1,hbx,hbel1⟩
     case round=>
      clear hrow1 hbx hbel1 HO hgo
      obtain⟨k,m,g,c,O,hk,rfl,rfl,HO,HG,hrow,hbx,hbel⟩:=hrel
      by_cases hkm:k<nb
      ·have hkb:k<b.length:=by rw [←HNB.out];exact hkm
       obtain⟨q,rfl,hq,hcellq⟩:=HasG.gk hcb k hkb
       obtain⟨y,hy⟩:∃y,y=b[k]:=⟨_,rfl⟩
       rw [←hy]at hcellq
       have HY:Hid (b.take (k+1)=b.take k++ [y]):=hid (by rw [List.take_succ_eq_append_getElem hkb,hy])
       clear hy hcb
       have hcy:=hcellq.below hbel hq
       obtain⟨d0,d1⟩:=hcy
       clear hcellq
       have hgb:=(hrow.lt rfl).1
       have HM:Hid (m+1≤549755813888):=hid (by
        have h1:=hrow.cap'
        rw [HO.out,List.length_append,meets_length,List.length_map,List.length_take,List.length_take]at h1
        have h2:=mul_lt_of hlt hkm
        have h3:=HAB.out
        rw [←HNA.out,←HNB.out]at h3
        rw [←HNA.out,←HNB.out,Nat.min_eq_left (by omega),Nat.min_eq_left (by omega)]at h1
        omega)
       have HR:Hid (RowG w.heap.size (wr.alloc (.cells #[.int .i64 y.lo,.int .i64 y.hi] 80)) (.slice (some ⟨g,0,none⟩) m c) O):=hid (RowR.alloc hrow _)
       have HBX:Hid (RowG w.heap.size (wr.alloc (.cells #[.int .i64 y.lo,.int .i64 y.hi] 80)) (.slice (some ⟨wo.heap.size,0,none⟩) 1 1) [x]):=hid (RowR.alloc hbx _)
       have HBY:=hid (rowG_box wr y w.heap.size hbel.size)
       have HNE:Hid (g<wr.heap.size∧wo.heap.size<wr.heap.size):=hid ⟨(hrow.lt rfl).2,(hbx.lt rfl).2⟩
       have hbel2:=below_al hbel (.cells #[.int .i64 y.lo,.int .i64 y.hi] 80)
       clear hrow hbx hbel
       go_wp2
       obtain⟨w2,hw2⟩:∃w2,w2=wr.alloc (.cells #[.int .i64 y.lo,.int .i64 y.hi] 80):=⟨_,rfl⟩
       rw [←hw2]at HR HBX HBY hbel2 ⊢
       have HS2:Hid (wr.heap.size<w2.heap.size):=hid (by rw [hw2];simp)
       obtain⟨by',hby'⟩:∃k,k=wr.heap.size:=⟨_,rfl⟩
       rw [←hby']at HBY HNE HS2 ⊢
       clear hw2 hby' d0 d1
       obtain⟨e0,e1,_,_⟩:=RowG.box HBX.out
       obtain⟨d0,d1,_,_⟩:=RowG.box HBY.out
       have HSM:Hid (∀w',RowG w.heap.size w' (.slice (some ⟨wo.heap.size,0,none⟩) 1 1) [x]→RowG w.heap.size w' (.slice (some ⟨by',0,none⟩) 1 1) [y]→Below w.heap.size w w'→((w'.cell? ⟨wo.heap.size,0,none⟩=some (.int .i64 x.lo)∧w'.cell? ⟨wo.heap.size,1,none⟩=some (.int .i64 x.hi))∧(w'.cell? ⟨by',0,none⟩=some (.int .i64 y.lo)∧w'.cell? ⟨by',1,none⟩=some (.int .i64 y.hi)))∧Below w.heap.size w w'):=hid fun w' h1 h2 h3=>⟨⟨⟨(RowG.box h1).1,(RowG.box h1).2.1⟩,(RowG.box h2).1,(RowG.box h2).2.1⟩,h3⟩
       have HR3:Hid (∀o,RowG w.heap.size (w2.drew.alloc o) (.slice (some ⟨g,0,none⟩) m c) O∧RowG w.heap.size (w2.drew.alloc o) (.slice (some ⟨wo.heap.size,0,none⟩) 1 1) [x]∧RowG w.heap.size (w2.drew.alloc o) (.slice (some ⟨by',0,none⟩) 1 1) [y]∧Below w.heap.size w (w2.drew.alloc o)):=hid fun o=>
        ⟨RowR.alloc (show RowG w.heap.size w2.drew (.slice (some ⟨g,0,none⟩) m c) O from HR.out) o,RowR.alloc (show RowG w.heap.size w2.drew (.slice (some ⟨wo.heap.size,0,none⟩) 1 1) [x]from HBX.out) o,RowR.alloc (show RowG w.heap.size w2.drew (.slice (some ⟨by',0,none⟩) 1 1) [y]from HBY.out) o,below_al hbel2.drew o⟩
       have HB0:Hid (RowG w.heap.size w2.drew (.slice (some ⟨wo.heap.size,0,none⟩) 1 1) [x]∧RowG w.heap.size w2.drew (.slice (some ⟨by',0,none⟩) 1 1) [y]∧Below w.heap.size w w2.drew):=hid ⟨HBX.out,HBY.out,hbel2.drew⟩
       have HS3:Hid (by'<w2.drew.heap.size):=hid HS2.out
       clear hbel2
       go_region_held3 (fun w'=>((w'.cell? ⟨wo.heap.size,0,none⟩=some (.int .i64 x.lo)∧w'.cell? ⟨wo.heap.size,1,none⟩=some (.int .i64 x.hi))∧(w'.cell? ⟨by',0,none⟩=some (.int .i64 y.lo)∧w'.cell? ⟨by',1,none⟩=some (.int .i64 y.hi)))∧Below w.heap.size w w') (first|exact HSM.out _ HB0.out.1 HB0.out.2.1 HB0.out.2.2|exact HSM.out _ hx4 hy4 hS1|assumption|exact HSM.out _ (HR3.out _).2.1 (HR3.out _).2.2.1 (HR3.out _).2.2.2)
        (first
         |(go_at_call 81;refine(iMax_any _ _ _).mono ?_;rintro e w1 ⟨rfl,rfl⟩)
         |(go_at_call 82;refine(iMin_any _ _ _).mono ?_;rintro e w1 ⟨rfl,rfl⟩)
         |(refine step_rng_append rfl _ _ (by rfl) w.heap.size g m c O (by rfl) (HR3.out _).1 ⟨max x.lo y.lo,min x.hi y.hi⟩ ⟨w2.drew.heap.size,0,none⟩ 1 (by rfl) (news_rng _ _ _) HM.out (HR3.out _).2.2.2.size (m+1) rfl ?_
           intro g' c' w4 hrow4 hg4 hp4
           have hx4:=(HR3.out _).2.1.apart hg4 (fun e=>HG.out e.symm)
           have hy4:=(HR3.out _).2.2.1.apart hg4 (fun e=>by have:=HNE.out;omega)
           have hS1:Below w.heap.size w w4:=(HR3.out _).2.2.2.grown hg4 (HR3.out _).2.2.2.size (fun _ h=>by cases h;exact hgb)))
       go_wp2
       go_roundw
       case rel=>exact⟨k+1,m+1,g',c',O++ [x.cap y],by omega,by go_num,rfl,hid (by rw [HY.out,HO.out,List.map_append,←List.append_assoc];rfl),hid (by have h1:=HG.out;have h2:=HNE.out;have h3:=HS2.out;simp at hp4;omega),hrow4,hx4,hS1⟩
       case measure=>simp [intOf];omega
      ·go_wp2
       go_roundw
       case rel=>exact⟨I+1,m,g,c,O,by omega,by go_num,rfl,hid (by rw [HX.out,meets_snoc,HO.out,List.take_of_length_le (l:=b) (by have:=HNB.out;omega)]),hrow,hbel⟩
       case measure=>simp [intOf];omega
    ·have e:i0=na:=by omega
     have HO2:Hid (O=meets a b):=hid (by have:=HO.out;rwa [List.take_of_length_le (by have:=HNA.out;omega)]at this)
     clear hca hcb
     go_wp2_with (go_at_call 80;refine(iNorm_any _ O _ hrow.hasG (by rw [HO2.out,meets_length];exact HAB.out)).mono ?_;rintro e w1 ⟨v',rfl,hr,hb1⟩)
     go_ret
     exact⟨_,rfl,by rw [HS.out,←HO2.out];exact hr.mono hbel.size,below_step hbel hb1⟩
end
end Go.Proofs.YtecladbckadijaaGreatDoor
