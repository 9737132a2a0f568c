/- MERGED for a claim. -/
import Derived.Test.YtecladbckadijaaGreatDoorMatT
set_option linter.unusedVariables false
set_option linter.unusedSimpArgs false
set_option maxRecDepth 100000
set_option maxHeartbeats 16000000
namespace Go.Proofs.YtecladbckadijaaGreatDoor
open Go.Lib (hid)
section
open Go.RowKit

def Bd (R:Nat→Nat→Prop)(n:Nat):Prop:=∀i j,i<n→R i j→j<n
theorem rtc_bd {R:Nat→Nat→Prop}{n:Nat}(h:Bd R n):Bd (Rtc R) n:=fun i j hi hr=>by
 induction hr with
 | refl _=>exact hi
 | step h1 _ ih=>exact ih (h _ _ hi h1)
theorem seq_bd {R:Pat→Nat→Nat→Prop}{n:Nat}(h:∀p,Bd (R p) n):∀l,Bd (SeqR R l) n
 | []=>fun i j hi hr=>by have e:i=j:=hr;omega
 | p::l=>fun i j hi ⟨k,h1,h2⟩=>seq_bd h l k j (h p i k hi h1) h2
theorem step_bd {s:ByteArray}{R:Pat→Nat→Nat→Prop}(h:∀p,Bd (R p) (s.size+1))(p:Pat):Bd (StepM s R p) (s.size+1):=fun i j hi hr=>by
 unfold StepM at hr
 split at hr
 ·obtain⟨⟨h1,_⟩,rfl⟩:=hr;omega
 ·split at hr
  ·exact seq_bd h _ i j hi hr
  ·split at hr
   ·obtain⟨k,_,h2⟩:=hr;exact h k i j hi h2
   ·split at hr
    ·split at hr
     ·exact rtc_bd (h _) i j hi hr
     ·omega
    ·split at hr
     ·split at hr
      ·rcases hr with e|hr
       ·omega
       ·exact h _ i j hi hr
      ·omega
     ·exact hr.elim
theorem mt_bd (s:ByteArray):∀d p,Bd (Mt s d p) (s.size+1)
 | 0,p=>step_bd (fun _ _ _ _ h=>h.elim) p
 | d+1,p=>step_bd (mt_bd s d) p
theorem kid_bd (s:ByteArray):∀d p,Bd (kidM s d p) (s.size+1)
 | 0,_=>fun _ _ _ h=>h.elim
 | d+1,p=>mt_bd s d p
theorem ends_self (A:List Bool):EndsOf (fun i j=>i=j) A A:=fun j _=>⟨fun h=>⟨j,h,rfl⟩,fun⟨_,h,e⟩=>e▸h⟩
theorem EndsOf.congr {R R':Nat→Nat→Prop}{A O:List Bool}(h:EndsOf R A O)(e:∀i j,R i j↔R' i j):EndsOf R' A O:=fun j hj=>(h j hj).trans ⟨fun⟨i,h1,h2⟩=>⟨i,h1,(e i j).1 h2⟩,fun⟨i,h1,h2⟩=>⟨i,h1,(e i j).2 h2⟩⟩
theorem ends_comp {R1 R2:Nat→Nat→Prop}{A O O2:List Bool}{n:Nat}(h1:EndsOf R1 A O)(h2:EndsOf R2 O O2)(hA:A.length=n)(hO:O.length=n)(hb:Bd R1 n):EndsOf (fun i j=>∃k,R1 i k∧R2 k j) A O2:=fun j hj=>by
 rw [h2 j hj]
 constructor
 ·rintro⟨k,hk,hr⟩
  obtain⟨i,hi,hr1⟩:=(h1 k (on_lt hk)).1 hk
  exact⟨i,hi,k,hr1,hr⟩
 ·rintro⟨i,hi,k,hr1,hr2⟩
  exact⟨k,(h1 k (by have:=hb i k (by have:=on_lt hi;omega) hr1;omega)).2 ⟨i,hi,hr1⟩,hr2⟩
theorem seq_snoc {R:Pat→Nat→Nat→Prop}{p:Pat}:∀ {l:List Pat} {i j:Nat},SeqR R (l++ [p]) i j↔∃k,SeqR R l i k∧R p k j
 | [],i,j=>⟨fun⟨k,h1,h2⟩=>⟨i,rfl,by have e:k=j:=h2;exact e▸h1⟩,fun⟨k,h1,h2⟩=>⟨j,by have e:i=k:=h1;rw [e];exact h2,rfl⟩⟩
 | q :: l, i, j => by
  constructor
  ·rintro⟨k,h1,h2⟩
   obtain⟨k2,h3,h4⟩:=seq_snoc.1 h2
   exact⟨k2,⟨k,h1,h3⟩,h4⟩
  ·rintro⟨k2,⟨k,h1,h3⟩,h4⟩
   exact⟨k,h1,seq_snoc.2 ⟨k2,h3,h4⟩⟩
theorem ends_alt {R:Pat→Nat→Nat→Prop}{A O E:List Bool}{l:List Pat}{p:Pat}(h1:EndsOf (fun i j=>∃k,k∈l∧R k i j) A O)(h2:EndsOf (R p) A E)(hl:O.length=E.length)(U:List Bool)(hU:U.length=O.length)(hu:∀i,On U i↔On O i∨On E i):EndsOf (fun i j=>∃k,k∈l++ [p]∧R k i j) A U:=fun j hj=>by
 rw [hu j]
 constructor
 ·rintro(h|h)
  ·obtain⟨i,hi,k,hk,hr⟩:=(h1 j (by omega)).1 h
   exact⟨i,hi,k,List.mem_append_left _ hk,hr⟩
  ·obtain⟨i,hi,hr⟩:=(h2 j (by omega)).1 h
   exact⟨i,hi,p,by simp,hr⟩
 ·rintro⟨i,hi,k,hk,hr⟩
  rcases List.mem_append.1 hk with hk|hk
  ·exact .inl ((h1 j (by omega)).2 ⟨i,hi,k,hk,hr⟩)
  ·rw [List.mem_singleton.1 hk]at hr
   exact .inr ((h2 j (by omega)).2 ⟨i,hi,hr⟩)
def Sofar (R:Nat→Nat→Prop)(A O:List Bool):Prop:=(∀i,On A i→On O i)∧∀j,On O j→∃i,On A i∧Rtc R i j
theorem rtc_snoc {R:Nat→Nat→Prop}{i j k:Nat}(h:Rtc R i j)(t:R j k):Rtc R i k:=h.trans (.one t)
theorem sofar_start (R:Nat→Nat→Prop)(A:List Bool):Sofar R A A:=⟨fun _ h=>h,fun j h=>⟨j,h,.refl _⟩⟩
theorem Sofar.more {R:Nat→Nat→Prop}{A O E U:List Bool}(h:Sofar R A O)(hE:EndsOf R O E)(hu:∀i,On U i↔On O i∨On E i):Sofar R A U:=
 ⟨fun i hi=>(hu i).2 (.inl (h.1 i hi)),fun j hj=>by
  rcases(hu j).1 hj with hj|hj
  ·exact h.2 j hj
  ·obtain⟨k,hk,hr⟩:=(hE j (on_lt hj)).1 hj
   obtain⟨i,hi,ht⟩:=h.2 k hk
   exact⟨i,hi,rtc_snoc ht hr⟩⟩
theorem Sofar.done {R:Nat→Nat→Prop}{A O E U:List Bool}{n:Nat}(h:Sofar R A O)(hE:EndsOf R O E)(hu:∀i,On U i↔On O i∨On E i)(he:U=O)(hO:O.length=n)(hEl:E.length=n)(hA:A.length=n)(hb:Bd R n):EndsOf (Rtc R) A O:=fun j hj=>by
 refine⟨h.2 j,?_⟩
 rintro⟨i,hi,ht⟩
 have h0:=h.1 i hi
 clear hi hj
 induction ht with
 | refl _=>exact h0
 | step h1 _ ih =>
  refine ih ?_
  rw [←he]
  have hlt:=hb _ _ (by have:=on_lt h0;omega) h1
  exact(hu _).2 (.inr ((hE _ (by omega)).2 ⟨_,h0,h1⟩))
theorem ends_maybe {R:Nat→Nat→Prop}{A E U:List Bool}(hE:EndsOf R A E)(hl:E.length=U.length)(hu:∀i,On U i↔On A i∨On E i):EndsOf (fun i j=>i=j∨R i j) A U:=fun j hj=>by
 rw [hu j,hE j (by omega)]
 constructor
 ·rintro(h|⟨i,hi,hr⟩)
  ·exact⟨j,h,.inl rfl⟩
  ·exact⟨i,hi,.inr hr⟩
 ·rintro⟨i,hi,e|hr⟩
  ·exact .inl (e▸hi)
  ·exact .inr ⟨i,hi,hr⟩
theorem ch_fin {A:List Bool}{s tx:ByteArray}{k k1 q j:Nat}{ax:Bool}(hA:On A k↔ax=true)(hk1:k1=k+1)(hk:k<s.size)(hfin:q=tx.size∨ax=false):
  ((∃i,i<k∧j=i+1∧On A i∧ChAt s tx i)∨(j=k1∧ax=true∧∃r,∃h:r<tx.size,r<q∧tx[r]=s[k]))↔∃i,i<k+1∧j=i+1∧On A i∧ChAt s tx i:=by
 constructor
 ·rintro(⟨i,h1,h2⟩|⟨h1,h2,r,h3,h4,h5⟩)
  ·exact⟨i,by omega,h2⟩
  ·exact⟨k,by omega,by omega,hA.2 h2,hk,by rw [←h5];exact List.mem_iff_getElem.2 ⟨r,by simpa using h3,rfl⟩⟩
 ·rintro⟨i,h1,h2,h3,h4⟩
  by_cases e:i=k
  ·subst e
   obtain⟨_,h5⟩:=h4
   have hax:=hA.1 h3
   rcases hfin with hf|hf
   ·obtain⟨r,hr,hr2⟩:=List.getElem_of_mem h5
    have hr':r<tx.size:=by simpa using hr
    exact .inr ⟨by omega,hax,r,hr',by omega,hr2⟩
   ·rw [hf]at hax;cases hax
  ·exact .inl ⟨i,by omega,h2,h3,h4⟩
theorem ch_on {O U:List Bool}{s tx:ByteArray}{k k1 q j:Nat}{h0:k<s.size}(hon:On U k1)(hU:On U k1↔On O k1∨(k1=k1∧true=true∧∃r,∃h:r<tx.size,r<q∧tx[r]=s[k])):
  ((j=k1∧true=true)∨(j≠k1∧(On O j∨(j=k1∧true=true∧∃r,∃h:r<tx.size,r<q∧tx[r]=s[k]))))↔(On O j∨(j=k1∧true=true∧∃r,∃h:r<tx.size,r<q+1∧tx[r]=s[k])):=by
 by_cases e:j=k1
 ·subst e
  refine⟨fun _=>?_,fun _=>.inl ⟨rfl,rfl⟩⟩
  rcases hU.1 hon with h|⟨_,_,r,h1,h2,h3⟩
  ·exact .inl h
  ·exact .inr ⟨rfl,rfl,r,h1,by omega,h3⟩
 ·constructor
  ·rintro(⟨h,_⟩|⟨_,h|⟨h,_⟩⟩)
   ·exact absurd h e
   ·exact .inl h
   ·exact absurd h e
  ·rintro(h|⟨h,_⟩)
   ·exact .inr ⟨e,.inl h⟩
   ·exact absurd h e
theorem ch_hit {O:List Bool}{s tx:ByteArray}{k k1 q j:Nat}{h0:k<s.size}(hq:q<tx.size)(heq:tx[q]=s[k]):
  ((j=k1∧true=true)∨(j≠k1∧(On O j∨(j=k1∧true=true∧∃r,∃h:r<tx.size,r<q∧tx[r]=s[k]))))↔(On O j∨(j=k1∧true=true∧∃r,∃h:r<tx.size,r<q+1∧tx[r]=s[k])):=by
 by_cases e:j=k1
 ·subst e
  exact⟨fun _=>.inr ⟨rfl,rfl,q,hq,by omega,heq⟩,fun _=>.inl ⟨rfl,rfl⟩⟩
 ·constructor
  ·rintro(⟨h,_⟩|⟨_,h|⟨h,_⟩⟩)
   ·exact absurd h e
   ·exact .inl h
   ·exact absurd h e
  ·rintro(h|⟨h,_⟩)
   ·exact .inr ⟨e,.inl h⟩
   ·exact absurd h e
theorem ch_miss {O U:List Bool}{s tx:ByteArray}{k k1 q j:Nat}{h0:k<s.size}(hq:q<tx.size)(hne:tx[q]≠s[k])(hoff:¬On U k1)(hU:On U k1↔On O k1∨(k1=k1∧true=true∧∃r,∃h:r<tx.size,r<q∧tx[r]=s[k])):
  ((j=k1∧false=true)∨(j≠k1∧(On O j∨(j=k1∧true=true∧∃r,∃h:r<tx.size,r<q∧tx[r]=s[k]))))↔(On O j∨(j=k1∧true=true∧∃r,∃h:r<tx.size,r<q+1∧tx[r]=s[k])):=by
 by_cases e:j=k1
 ·subst e
  constructor
  ·rintro(⟨_,h⟩|⟨h,_⟩)
   ·cases h
   ·exact absurd rfl h
  ·intro h
   refine absurd (hU.2 ?_) hoff
   rcases h with h|⟨_,_,r,h1,h2,h3⟩
   ·exact .inl h
   ·by_cases er:r=q
    ·subst er;exact absurd h3 hne
    ·exact .inr ⟨rfl,rfl,r,h1,by omega,h3⟩
 ·constructor
  ·rintro(⟨h,_⟩|⟨_,h|⟨h,_⟩⟩)
   ·exact absurd h e
   ·exact .inl h
   ·exact absurd h e
  ·rintro(h|⟨h,_⟩)
   ·exact .inr ⟨e,.inl h⟩
   ·exact absurd h e
end
section
open Go.RowKit

def Tru (b:Bool):Prop:=b=true
theorem rowB_made {w1:World}{g n1 B:Nat}(hown1:w1.ownsRow B 4 1 (.slice (some ⟨g,0,none⟩) n1 n1) n1 (madeCells (Value.bool false).cells (n1*1)).toList):RowB B w1 (.slice (some ⟨g,0,none⟩) n1 n1) (List.replicate n1 false):=by
 have:=hown1
 rw [show(madeCells (Value.bool false).cells (n1*1)).toList=(List.replicate n1 false).flatMap bE from made_flat bE_len (by omega) _ false rfl n1]at this
 unfold RowB RowR
 rw [List.length_replicate]
 exact this
theorem iff_step {U O:List Bool}{k:Nat}{q ux ox:Bool}(h1:Tru q↔∃i,i<k∧U[i]? ≠O[i]?)(h3:U[k]? =some ux)(h4:O[k]? =some ox):Tru (q || (ux != ox))↔∃i,i<k+1∧U[i]? ≠O[i]? :=by
 unfold Tru at*
 constructor
 ·intro h
  rw [Bool.or_eq_true]at h
  rcases h with h|h
  ·obtain⟨i,hi,hne⟩:=h1.1 h
   exact⟨i,by omega,hne⟩
  ·refine⟨k,by omega,?_⟩
   rw [h3,h4]
   intro e
   rw [Option.some.inj e]at h
   simp at h
 ·rintro⟨i,hi,hne⟩
  rw [Bool.or_eq_true]
  by_cases e:i=k
  ·subst e
   rw [h3,h4]at hne
   right
   rw [bne_iff_ne]
   exact fun e=>hne (by rw [e])
  ·exact .inl (h1.2 ⟨i,by omega,hne⟩)
theorem step_idle {s:ByteArray}{R:Pat→Nat→Nat→Prop}{t:Pat}(h:t.x.op=4∨t.x.op=5)(hl:t.kids.length≠1)(i j:Nat):StepM s R t i j↔i=j:=by
 unfold StepM
 rcases h with h|h<;>rw [h]<;>simp
 all_goals
  split
  ·rename_i k e;rw [e]at hl;simp at hl
  ·rfl
theorem ends_seq (s:ByteArray)(d:Nat)(t:Pat)(h2:t.x.op=2):EndsC s d t:=by
 intro Ak m ck v A w hK hm hA hl hs ht hmm
 obtain⟨i0,hi0,hz0,hz1,hz2⟩:=info_parts infoBool
 rw [h2]
 obtain⟨n1,hn1⟩:∃n1,n1=s.size+1:=⟨_,rfl⟩
 have hnz:(s.size:Int)+1=(n1:Int):=by omega
 have hn9:n1≤1048577:=by omega
 have hs9:s.size≤9223372036854775807:=by omega
 have HN1:=hid hn1
 rw [←hn1]at hl
 obtain⟨Av,cv,rfl⟩:=hA.form
 rw [hl]at hA ⊢
 have HAl:=hid hl
 have HA:=hid hA
 have HK:=hid hK
 have HM:=hid hm
 have hn0:0<n1:=by omega
 have hb2:i0.bytes*n1≤281474976710656:=by rw [hz2];omega
 have hb3:n1≤maxLen:=by unfold maxLen;omega
 clear hz2 hK hm hA hl hn1
 have HSZ:Hid (∀o:Obj,(w.alloc o).heap.size=w.heap.size+1):=hid (fun o=>by simp)
 go_enter Tryz.func96,Tryz.ntmps96
 go_wp2_with (first
  |(at_make;refine wpList_make_full _ rfl _ _ 136 rfl (w.heap.size+1) 4 i0 (.bool false) 1 Tryz.underlying136 hi0 hz0 hz1 _ _ _ _ n1 rfl rfl (by first | rfl | exact hnz) (by first | rfl | exact hnz) hb2 hb3 (by simp) ?_;intro w1 hown1 hg1;have hbel1:Below w.heap.size w w1:=(below_al (Below.refl _ _) _).grown hg1 (by simp) (by simp);have hq1:w1.heap[w.heap.size]? =some (.cells #[.int .i64 2,.string t.x.text,.slice Ak m ck] 92 (0,0)):=(hg1.block _ (by simp) (by simp)).trans (heap_alloc_new w _);have HQ1:=hid hq1;have HZ1:Hid (w.heap.size+1≤w1.heap.size):=hid (by have:=hg1.size;simpa using this);have c0:w1.cell? ⟨w.heap.size,0,none⟩=some (.int .i64 2):=(by rw [cell_of_row _ w.heap.size 0 _ _ _ hq1];rfl);have c1:w1.cell? ⟨w.heap.size,1,none⟩=some (.string t.x.text):=(by rw [cell_of_row _ w.heap.size 1 _ _ _ hq1];rfl);have c2:w1.cell? ⟨w.heap.size,2,none⟩=some (.slice Ak m ck):=(by rw [cell_of_row _ w.heap.size 2 _ _ _ hq1];rfl);have hrow1:RowB (w.heap.size+1) w1 (.slice (some ⟨w.heap.size+1,0,none⟩) n1 n1) (List.replicate n1 false):=(by have h:=rowB_made hown1;rw [HSZ.out]at h;exact h);clear hq1 hown1 hg1)
  |((with_reducible show wpList _ _ _ ((⟨_,.call { callee:=.builtin .copy,args:=_,argTypes:=_ },_,_,_,_⟩:Oper)::_) _ _);go_loud (refine wpList_copy_bools rfl _ _ rfl (w.heap.size+1) (w.heap.size+1) n1 n1 (List.replicate n1 false) A rfl hrow1 _ rfl (HasR.below HA.out hbel1) HAl.out hn0 ?_);intro w2 hrow2 hg2 z2;have hbel2:Below w.heap.size w w2:=hbel1.grown hg2 hbel1.size (fun q hq=>by cases hq;omega);have hq2:w2.heap[w.heap.size]? =some (.cells #[.int .i64 2,.string t.x.text,.slice Ak m ck] 92 (0,0)):=(hg2.block _ (by have:=HZ1.out;omega) (by simp)).trans HQ1.out;have HQ2:=hid hq2;have c0:w2.cell? ⟨w.heap.size,0,none⟩=some (.int .i64 2):=(by rw [cell_of_row _ w.heap.size 0 _ _ _ hq2];rfl);have c2:w2.cell? ⟨w.heap.size,2,none⟩=some (.slice Ak m ck):=(by rw [cell_of_row _ w.heap.size 2 _ _ _ hq2];rfl);have HROW:=hid hrow2;clear hq2 hrow2 hg2 hrow1 hbel1))
 go_loopw [7,10] (fun o i wr=>∃(k:Nat) (O:List Bool),k≤m∧i=.int .i64 k∧O.length=n1∧Hid (RowB (w.heap.size+1) wr o O)∧Hid (EndsOf (SeqR (kidM s d) (t.kids.take k)) A O)∧Hid (wr.heap[w.heap.size]? =some (.cells #[.int .i64 2,.string t.x.text,.slice Ak m ck] 92 (0,0)))∧Below w.heap.size w wr) (fun _ i _=>m-(intOf i).toNat)
 case atStart=>exact⟨0,A,Nat.zero_le _,rfl,HAl.out,HROW,hid (by rw [List.take_zero];exact ends_self A),HQ2,hbel2⟩
 case round=>
  clear HROW hbel2 HQ2 c0 c2
  obtain⟨k,O,hk,rfl,hO,HR,HE,HQ,hbel⟩:=hrel
  have c2:wr.cell? ⟨w.heap.size,2,none⟩=some (.slice Ak m ck):=by rw [cell_of_row _ w.heap.size 2 _ _ _ HQ.out];rfl
  by_cases hlt:k<m
  ·have hkz:(k:Int)<(m:Int):=by omega
   have hkl:k<t.kids.length:=by rw [←HM.out];exact hlt
   obtain⟨a,x,rfl,hab,hx,hcall⟩:=HK.out k hkl
   obtain⟨d0,d1,d2⟩:=hx.below hbel hab
   have HTK:=hid (List.take_succ_eq_append_getElem (l:=t.kids) hkl)
   have HCALL:=hid (hcall u7 O wr hbel (RowR.has bE_len HR.out) (by rw [hO];exact HN1.out))
   clear hx hcall
   go_wp2_with (go_at_call 96;(refine(HCALL.out).mono ?_);rintro e w2 ⟨o2,O2,rfl,HR2,hl2,HE2,HB2⟩)
   go_roundw
   case rel=>
    refine⟨k+1,O2,by omega,by go_num,by rw [hl2];exact HN1.out.symm,hid (RowR.mono HR2.out (by have:=hbel.size;have:=(Array.getElem?_eq_some_iff.1 HQ.out).1;omega)),hid ?_,hid ((HB2.out.block _ (Array.getElem?_eq_some_iff.1 HQ.out).1).trans HQ.out),below_step hbel HB2.out⟩
    rw [HTK.out]
    refine EndsOf.congr (ends_comp HE.out HE2.out HAl.out hO (by rw [HN1.out];exact seq_bd (fun p=>kid_bd s d p) _)) (fun i j=>(seq_snoc).symm)
   case measure=>simp [intOf];omega
  ·have hkz:¬(k:Int)<(m:Int):=by omega
   have hall:t.kids.take k=t.kids:=List.take_of_length_le (by rw [←HM.out];omega)
   rw [hall]at HE
   go_wp2
   go_ret
   exact⟨u7,O,rfl,hid (RowR.mono HR.out (by omega)),by rw [hO];exact HN1.out,hid (EndsOf.congr HE.out (fun i j=>by unfold StepM;simp [h2])),hid hbel⟩
theorem ends_alts (s:ByteArray)(d:Nat)(t:Pat)(h2:t.x.op=3):EndsC s d t:=by
 intro Ak m ck v A w hK hm hA hl hs ht hmm
 obtain⟨i0,hi0,hz0,hz1,hz2⟩:=info_parts infoBool
 rw [h2]
 obtain⟨n1,hn1⟩:∃n1,n1=s.size+1:=⟨_,rfl⟩
 have hnz:(s.size:Int)+1=(n1:Int):=by omega
 have hn9:n1≤1048577:=by omega
 have hs9:s.size≤9223372036854775807:=by omega
 have HN1:=hid hn1
 rw [←hn1]at hl
 obtain⟨Av,cv,rfl⟩:=hA.form
 rw [hl]at hA ⊢
 have HAl:=hid hl
 have HA:=hid hA
 have HK:=hid hK
 have HM:=hid hm
 have hn0:0<n1:=by omega
 have hb2:i0.bytes*n1≤281474976710656:=by rw [hz2];omega
 have hb3:n1≤maxLen:=by unfold maxLen;omega
 clear hz2 hK hm hA hl hn1
 have HSZ:Hid (∀o:Obj,(w.alloc o).heap.size=w.heap.size+1):=hid (fun o=>by simp)
 go_enter Tryz.func96,Tryz.ntmps96
 go_wp2_with (first
  |(at_make;refine wpList_make_full _ rfl _ _ 136 rfl (w.heap.size+1) 4 i0 (.bool false) 1 Tryz.underlying136 hi0 hz0 hz1 _ _ _ _ n1 rfl rfl (by first | rfl | exact hnz) (by first | rfl | exact hnz) hb2 hb3 (by simp) ?_;intro w1 hown1 hg1;have hbel1:Below w.heap.size w w1:=(below_al (Below.refl _ _) _).grown hg1 (by simp) (by simp);have hq1:w1.heap[w.heap.size]? =some (.cells #[.int .i64 3,.string t.x.text,.slice Ak m ck] 92 (0,0)):=(hg1.block _ (by simp) (by simp)).trans (heap_alloc_new w _);have HQ1:=hid hq1;have HZ1:Hid (w.heap.size+1≤w1.heap.size):=hid (by have:=hg1.size;simpa using this);have c0:w1.cell? ⟨w.heap.size,0,none⟩=some (.int .i64 3):=(by rw [cell_of_row _ w.heap.size 0 _ _ _ hq1];rfl);have c1:w1.cell? ⟨w.heap.size,1,none⟩=some (.string t.x.text):=(by rw [cell_of_row _ w.heap.size 1 _ _ _ hq1];rfl);have c2:w1.cell? ⟨w.heap.size,2,none⟩=some (.slice Ak m ck):=(by rw [cell_of_row _ w.heap.size 2 _ _ _ hq1];rfl);have hrow1:RowB (w.heap.size+1) w1 (.slice (some ⟨w.heap.size+1,0,none⟩) n1 n1) (List.replicate n1 false):=(by have h:=rowB_made hown1;rw [HSZ.out]at h;exact h);clear hq1 hown1 hg1))
 go_loopw [7,11] (fun o i wr=>∃(k:Nat) (O:List Bool),k≤m∧i=.int .i64 k∧O.length=n1∧Hid (RowB (w.heap.size+1) wr o O)∧Hid (EndsOf (fun i j=>∃q,q∈t.kids.take k∧kidM s d q i j) A O)∧Hid (wr.heap[w.heap.size]? =some (.cells #[.int .i64 3,.string t.x.text,.slice Ak m ck] 92 (0,0)))∧Below w.heap.size w wr) (fun _ i _=>m-(intOf i).toNat)
 case atStart=>exact⟨0,_,Nat.zero_le _,rfl,List.length_replicate,hid hrow1,hid (ends_none (s:=s) (by rintro i j ⟨q,hq,_⟩;simp at hq) n1),HQ1,hbel1⟩
 case round=>
  clear hrow1 hbel1 HQ1 c0 c1 c2
  obtain⟨k,O,hk,rfl,hO,HR,HE,HQ,hbel⟩:=hrel
  have c2:wr.cell? ⟨w.heap.size,2,none⟩=some (.slice Ak m ck):=by rw [cell_of_row _ w.heap.size 2 _ _ _ HQ.out];rfl
  by_cases hlt:k<m
  ·have hkz:(k:Int)<(m:Int):=by omega
   have hkl:k<t.kids.length:=by rw [←HM.out];exact hlt
   obtain⟨a,x,rfl,hab,hx,hcall⟩:=HK.out k hkl
   obtain⟨d0,d1,d2⟩:=hx.below hbel hab
   have HTK:=hid (List.take_succ_eq_append_getElem (l:=t.kids) hkl)
   have HCALL:=hid (hcall (.slice Av n1 cv) A wr hbel (HasR.below HA.out hbel) (by rw [HAl.out];exact HN1.out))
   have HO:=hid hO
   clear hx hcall
   go_wp2_with (first
    |(go_at_call 96;(refine(HCALL.out).mono ?_);rintro e w2 ⟨o2,O2,rfl,HR2,hl2,HE2,HB2⟩;have HL2:=hid (hl2.trans HN1.out.symm);clear hl2)
    |(go_at_call 121;(refine(sboth_any u7 o2 O O2 w2 (HasR.below (RowR.has bE_len HR.out) HB2.out) (RowR.has bE_len HR2.out) (by rw [HO.out,HL2.out]) (by rw [HO.out];omega)).mono ?_);rintro e w3 ⟨o3,rfl,HR3,HB3⟩))
   go_roundw
   case rel=>
    have hB:=below_step HB2.out HB3.out
    refine⟨k+1,orL O O2,by omega,by go_num,by rw [orL_len (by rw [HO.out,HL2.out])];exact HO.out,hid (RowR.mono HR3.out (by have:=HB2.out.size;have:=(Array.getElem?_eq_some_iff.1 HQ.out).1;omega)),hid ?_,hid ((hB.block _ (Array.getElem?_eq_some_iff.1 HQ.out).1).trans HQ.out),below_step hbel hB⟩
    rw [HTK.out]
    exact ends_alt HE.out HE2.out (by rw [HO.out,HL2.out]) _ (orL_len (by rw [HO.out,HL2.out])) (fun i=>on_or (by rw [HO.out,HL2.out]) i)
   case measure=>simp [intOf];omega
  ·have hkz:¬(k:Int)<(m:Int):=by omega
   have hall:t.kids.take k=t.kids:=List.take_of_length_le (by rw [←HM.out];omega)
   rw [hall]at HE
   go_wp2
   go_ret
   exact⟨u7,O,rfl,hid (RowR.mono HR.out (by omega)),by rw [hO];exact HN1.out,hid (EndsOf.congr HE.out (fun i j=>by unfold StepM;simp [h2])),hid hbel⟩
end
section
open Go.RowKit

theorem ends_of_star (s:ByteArray)(d:Nat)(t:Pat)(h2:t.x.op=4):EndsC s d t:=by
 intro Ak m ck v A w hK hm hA hl hs ht hmm
 obtain⟨i0,hi0,hz0,hz1,hz2⟩:=info_parts infoBool
 rw [h2]
 obtain⟨n1,hn1⟩:∃n1,n1=s.size+1:=⟨_,rfl⟩
 have hnz:(s.size:Int)+1=(n1:Int):=by omega
 have hn9:n1≤1048577:=by omega
 have hs9:s.size≤9223372036854775807:=by omega
 have HN1:=hid hn1
 rw [←hn1]at hl
 obtain⟨Av,cv,rfl⟩:=hA.form
 rw [hl]at hA ⊢
 have HAl:=hid hl
 have HA:=hid hA
 have HK:=hid hK
 have HM:=hid hm
 have hn0:0<n1:=by omega
 have hb2:i0.bytes*n1≤281474976710656:=by rw [hz2];omega
 have hb3:n1≤maxLen:=by unfold maxLen;omega
 clear hz2 hK hm hA hl hn1
 have HSZ:Hid (∀o:Obj,(w.alloc o).heap.size=w.heap.size+1):=hid (fun o=>by simp)
 go_enter Tryz.func96,Tryz.ntmps96
 go_wp2_with (first
  |(at_make;refine wpList_make_full _ rfl _ _ 136 rfl (w.heap.size+1) 4 i0 (.bool false) 1 Tryz.underlying136 hi0 hz0 hz1 _ _ _ _ n1 rfl rfl (by first | rfl | exact hnz) (by first | rfl | exact hnz) hb2 hb3 (by simp) ?_;intro w1 hown1 hg1;have hbel1:Below w.heap.size w w1:=(below_al (Below.refl _ _) _).grown hg1 (by simp) (by simp);have hq1:w1.heap[w.heap.size]? =some (.cells #[.int .i64 4,.string t.x.text,.slice Ak m ck] 92 (0,0)):=(hg1.block _ (by simp) (by simp)).trans (heap_alloc_new w _);have HQ1:=hid hq1;have HZ1:Hid (w.heap.size+1≤w1.heap.size):=hid (by have:=hg1.size;simpa using this);have c0:w1.cell? ⟨w.heap.size,0,none⟩=some (.int .i64 4):=(by rw [cell_of_row _ w.heap.size 0 _ _ _ hq1];rfl);have c1:w1.cell? ⟨w.heap.size,1,none⟩=some (.string t.x.text):=(by rw [cell_of_row _ w.heap.size 1 _ _ _ hq1];rfl);have c2:w1.cell? ⟨w.heap.size,2,none⟩=some (.slice Ak m ck):=(by rw [cell_of_row _ w.heap.size 2 _ _ _ hq1];rfl);have hrow1:RowB (w.heap.size+1) w1 (.slice (some ⟨w.heap.size+1,0,none⟩) n1 n1) (List.replicate n1 false):=(by have h:=rowB_made hown1;rw [HSZ.out]at h;exact h);clear hq1 hown1 hg1)
  |((with_reducible show wpList _ _ _ ((⟨_,.call { callee:=.builtin .copy,args:=_,argTypes:=_ },_,_,_,_⟩:Oper)::_) _ _);go_loud (refine wpList_copy_bools rfl _ _ rfl (w.heap.size+1) (w.heap.size+1) n1 n1 (List.replicate n1 false) A rfl hrow1 _ rfl (HasR.below HA.out hbel1) HAl.out hn0 ?_);intro w2 hrow2 hg2 z2;have hbel2:Below w.heap.size w w2:=hbel1.grown hg2 hbel1.size (fun q hq=>by cases hq;omega);have hq2:w2.heap[w.heap.size]? =some (.cells #[.int .i64 4,.string t.x.text,.slice Ak m ck] 92 (0,0)):=(hg2.block _ (by have:=HZ1.out;omega) (by simp)).trans HQ1.out;have HQ2:=hid hq2;have c0:w2.cell? ⟨w.heap.size,0,none⟩=some (.int .i64 4):=(by rw [cell_of_row _ w.heap.size 0 _ _ _ hq2];rfl);have c2:w2.cell? ⟨w.heap.size,2,none⟩=some (.slice Ak m ck):=(by rw [cell_of_row _ w.heap.size 2 _ _ _ hq2];rfl);have HROW:=hid hrow2;clear hq2 hrow2 hg2 hrow1 hbel1))
 by_cases hm1:m=1
 ·obtain⟨k0,hk0⟩:∃k0,t.kids=[k0]:=List.length_eq_one_iff.1 (by rw [←HM.out];exact hm1)
  have hK0:=HK.out 0 (by rw [hk0];simp)
  obtain⟨a,x,rfl,hab,hx,hcall⟩:=hK0
  have hkk:t.kids[0]'(by rw [hk0];simp)=k0:=by simp [hk0]
  rw [hkk]at hcall
  have HX:=hid hx
  have HCALL:=hid hcall
  have HK0:=hid hk0
  have hmz:((m:Int)==1)=true:=by rw [hm1];rfl
  have hmp:(0:Int)<(m:Int):=by omega
  clear hx hcall hkk hk0 hm1
  go_simp
  go_loopg [7] (n1+1) (fun G o wr=>∃(O:List Bool),n1+1-cntB O≤G∧O.length=n1∧Hid (RowB (w.heap.size+1) wr o O)∧Hid (Sofar (kidM s d k0) A O)∧Hid (4=5→O=A)∧Hid (wr.heap[w.heap.size]? =some (.cells #[.int .i64 4,.string t.x.text,.slice (some a) m ck] 92 (0,0)))∧Below w.heap.size w wr)
  case atStart=>exact⟨A,by omega,HAl.out,HROW,hid (sofar_start _ A),hid (fun _=>rfl),HQ2,hbel2⟩
  case round=>
   clear HROW hbel2 HQ2 c0 c2
   obtain⟨O,hG,hO,HR,HS,H5,HQ,hbel⟩:=hrel
   have c0:wr.cell? ⟨w.heap.size,0,none⟩=some (.int .i64 4):=by rw [cell_of_row _ w.heap.size 0 _ _ _ HQ.out];rfl
   have c2:wr.cell? ⟨w.heap.size,2,none⟩=some (.slice (some a) m ck):=by rw [cell_of_row _ w.heap.size 2 _ _ _ HQ.out];rfl
   obtain⟨Ao,co,rfl⟩:=HasB.form (RowR.has bE_len HR.out)
   have HO:=hid hO
   rw [hO]at HR ⊢
   have hz:a.add (0*3)=a:=by unfold Addr.add;rfl
   have hx':=HX.out
   rw [hz]at hab hx'
   obtain⟨d0,d1,d2⟩:=hx'.below hbel hab
   have HC:=hid (HCALL.out (.slice Ao n1 co) O wr hbel (RowR.has bE_len HR.out) (by rw [hO];exact HN1.out))
   have HB:=hid hbel
   clear hx' hO hbel
   go_wp2_with (first
    |(go_at_call 96;(refine(HC.out).mono ?_);rintro e w4 ⟨o2,O2,rfl,HR2,hl2,HE2,HB2⟩;have HL2:=hid (hl2.trans HN1.out.symm);have HRo:=hid (RowR.below HR.out HB2.out);clear hl2)
    |(go_at_call 121;(refine(sboth_any (.slice Ao n1 co) o2 O O2 w4 (RowR.has bE_len HRo.out) (RowR.has bE_len HR2.out) (by rw [HO.out,HL2.out]) (by rw [HO.out];omega)).mono ?_);rintro e w5 ⟨o3,rfl,HR3,HB3⟩;have HRp:=hid (RowR.below HRo.out HB3.out)))
   obtain⟨Au,cu,rfl⟩:=HasB.form (RowR.has bE_len HR3.out)
   have HU:Hid ((orL O O2).length=n1):=hid (by rw [orL_len (by rw [HO.out,HL2.out])];exact HO.out)
   rw [HU.out]at HR3 ⊢
   have hBw:=hid (below_step HB.out (below_step HB2.out HB3.out))
   have HQ5:Hid (w5.heap[w.heap.size]? =some (.cells #[.int .i64 4,.string t.x.text,.slice (some a) m ck] 92 (0,0))):=hid (((below_step HB2.out HB3.out).block _ (Array.getElem?_eq_some_iff.1 HQ.out).1).trans HQ.out)
   have HUO:Hid (∀i,On (orL O O2) i↔On O i∨On O2 i):=hid fun i=>on_or (by rw [HO.out,HL2.out]) i
   have hz4:Hid (w.heap.size+1≤w4.heap.size):=hid (by have:=HB2.out.size;have:=(Array.getElem?_eq_some_iff.1 HQ.out).1;omega)
   obtain⟨U,hU⟩:∃U,U=orL O O2:=⟨_,rfl⟩
   rw [←hU]at HR3 HU HUO
   clear hU c0 c2 d0 d1 d2 HRo HR HC
   go_loopw [13,14] (fun v13 v14 wq=>∃(k:Nat) (q:Bool),v13=.bool q∧v14=.int .i64 k∧k≤n1∧Hid (Tru q↔∃i,i<k∧U[i]? ≠O[i]?)∧Below w5.heap.size w5 wq) (fun _ v14 _=>n1-(intOf v14).toNat)
   case atStart=>exact⟨0,false,rfl,rfl,Nat.zero_le _,hid ⟨fun h=>absurd (show false=true from h) (by simp),fun⟨i,h,_⟩=>absurd h (by omega)⟩,Below.refl _ _⟩
   case round=>
    obtain⟨k,q,rfl,rfl,hk,HIFF,hbq⟩:=hrel
    by_cases hlt:k<n1
    ·have hkz:(k:Int)<(n1:Int):=by omega
     have hkU:k<U.length:=by rw [HU.out];exact hlt
     have hkO:k<O.length:=by rw [HO.out];exact hlt
     obtain⟨au,cu2,eu,hub,huc⟩:=HasB.cell (HasR.below (RowR.has bE_len HR3.out) hbq) hkU
     obtain⟨ao,co2,eo,hob,hoc⟩:=HasB.cell (HasR.below (RowR.has bE_len HRp.out) hbq) hkO
     rw [HU.out]at eu
     rw [HO.out]at eo
     cases eu
     cases eo
     have HGU:Hid (U[k]? =some U[k]):=hid (List.getElem?_eq_getElem hkU)
     have HGO:Hid (O[k]? =some O[k]):=hid (List.getElem?_eq_getElem hkO)
     generalize U[k]=ux at huc HGU
     generalize O[k]=ox at hoc HGO
     clear hkU hkO
     cases q
     ·cases ux
      all_goals
       cases ox
       all_goals
        go_wp2_with fail
        go_quiet (fail)
        have hbq2:Below w5.heap.size w5 (wr.drewN nq):=below_drewN hbq _
        go_wp2
        go_roundw
        case rel=>
         exact⟨k+1,_,rfl,by go_num,by omega,hid (iff_step HIFF.out HGU.out HGO.out),hbq2⟩
        case measure=>simp [intOf];omega
     ·go_wp2_with fail
      go_quiet (fail)
      have hbq2:Below w5.heap.size w5 (wr.drewN nq):=below_drewN hbq _
      go_wp2
      go_roundw
      case rel=>
       refine⟨k+1,true,rfl,by go_num,by omega,hid ?_,hbq2⟩
       obtain⟨i,hi,hne⟩:=HIFF.out.1 rfl
       exact⟨fun _=>⟨i,by omega,hne⟩,fun _=>rfl⟩
      case measure=>simp [intOf];omega
    ·have hkz:¬(k:Int)<(n1:Int):=by omega
     have hkn:k=n1:=by omega
     have HEND:Hid (q=false→U=O):=hid (by
      intro hq
      apply List.ext_getElem?
      intro i
      by_cases hi:i<n1
      ·by_cases e:U[i]? =O[i]?
       ·exact e
       ·exact absurd (show q=true from HIFF.out.2 ⟨i,by omega,e⟩) (by rw [hq];simp)
      ·rw [List.getElem?_eq_none (by rw [HU.out];omega),List.getElem?_eq_none (by rw [HO.out];omega)])
     have HMORE:Hid (q=true→U≠O):=hid (by
      intro hq e
      obtain⟨i,_,hne⟩:=HIFF.out.1 hq
      exact hne (by rw [e]))
     have cq:wr.cell? ⟨w.heap.size,0,none⟩=some (.int .i64 4):=by rw [cell_of_row _ w.heap.size 0 _ _ _ ((hbq.block _ (Array.getElem?_eq_some_iff.1 HQ5.out).1).trans HQ5.out)];rfl
     have HQq:Hid (wr.heap[w.heap.size]? =some (.cells #[.int .i64 4,.string t.x.text,.slice (some a) m ck] 92 (0,0))):=hid ((hbq.block _ (Array.getElem?_eq_some_iff.1 HQ5.out).1).trans HQ5.out)
     have HRq:=hid (RowR.mono (RowR.below HR3.out hbq) hz4.out)
     have HBq:=hid (below_step hBw.out hbq)
     clear hkn hbq HIFF
     cases q
     ·have HUE:=hid (HEND.out rfl)
      go_wp2
      go_ret
      exact⟨_,U,rfl,hid (RowR.mono HRq.out (by omega)),by rw [HU.out];exact HN1.out,hid (by
       have h:=Sofar.done HS.out HE2.out HUO.out HUE.out HO.out HL2.out HAl.out (by rw [HN1.out];exact kid_bd s d k0)
       rw [HUE.out]
       exact EndsOf.congr h (fun i j=>by unfold StepM;rw [HK0.out];simp [h2])),HBq⟩
     ·have hne:=HMORE.out rfl
      have HGR:Hid (cntB O<cntB U):=hid (cnt_grows (by rw [HO.out,HU.out]) (fun i h=>(HUO.out i).2 (.inl h)) (fun e=>hne e.symm))
      have HCN:Hid (cntB U≤n1):=hid (by have:=cntB_le U;rw [HU.out]at this;exact this)
      clear hne
      go_wp2
      go_roundg (n1+1-cntB U)
      case measure=>have h1:=HGR.out;have h2:=HCN.out;omega
      case rel=>exact⟨U,Nat.le_refl _,HU.out,HRq,hid (Sofar.more HS.out HE2.out HUO.out),hid (fun h=>absurd h (by decide)),HQq,HBq.out⟩
 ·have hmz:((m:Int)==1)=false:=by rw [beq_eq_false_iff_ne];omega
  have HST:Hid (∀i j,StepM s (kidM s d) t i j↔i=j):=hid fun i j=>step_idle (.inl h2) (by rw [←HM.out];exact hm1) i j
  go_simp
  go_loopg [7] 0 (fun G o wr=>o=.slice (some ⟨w.heap.size+1,0,none⟩) n1 n1∧wr=w2)
  case atStart=>exact⟨rfl,rfl⟩
  case round=>
   obtain⟨rfl,rfl⟩:=hrel
   go_wp2
   go_ret
   exact⟨_,A,rfl,hid (RowR.mono HROW.out (by omega)),by rw [HAl.out];exact HN1.out,hid (EndsOf.congr (ends_self A) (fun i j=>(HST.out i j).symm)),hid hbel2⟩
end
section
open Go.RowKit

theorem ends_chars (s:ByteArray)(d:Nat)(t:Pat)(h2:t.x.op=1):EndsC s d t:=by
 intro Ak m ck v A w hK hm hA hl hs ht hmm
 obtain⟨i0,hi0,hz0,hz1,hz2⟩:=info_parts infoBool
 rw [h2]
 obtain⟨n1,hn1⟩:∃n1,n1=s.size+1:=⟨_,rfl⟩
 have hnz:(s.size:Int)+1=(n1:Int):=by omega
 have hn9:n1≤1048577:=by omega
 have hs9:s.size≤9223372036854775807:=by omega
 have HN1:=hid hn1
 rw [←hn1]at hl
 obtain⟨Av,cv,rfl⟩:=hA.form
 rw [hl]at hA ⊢
 have HAl:=hid hl
 have HA:=hid hA
 have HK:=hid hK
 have HM:=hid hm
 have hn0:0<n1:=by omega
 have hb2:i0.bytes*n1≤281474976710656:=by rw [hz2];omega
 have hb3:n1≤maxLen:=by unfold maxLen;omega
 clear hz2 hK hm hA hl hn1
 have HSZ:Hid (∀o:Obj,(w.alloc o).heap.size=w.heap.size+1):=hid (fun o=>by simp)
 go_enter Tryz.func96,Tryz.ntmps96
 go_wp2_with (first
  |(at_make;refine wpList_make_full _ rfl _ _ 136 rfl (w.heap.size+1) 4 i0 (.bool false) 1 Tryz.underlying136 hi0 hz0 hz1 _ _ _ _ n1 rfl rfl (by first | rfl | exact hnz) (by first | rfl | exact hnz) hb2 hb3 (by simp) ?_;intro w1 hown1 hg1;have hbel1:Below w.heap.size w w1:=(below_al (Below.refl _ _) _).grown hg1 (by simp) (by simp);have hq1:w1.heap[w.heap.size]? =some (.cells #[.int .i64 1,.string t.x.text,.slice Ak m ck] 92 (0,0)):=(hg1.block _ (by simp) (by simp)).trans (heap_alloc_new w _);have HQ1:=hid hq1;have HZ1:Hid (w.heap.size+1≤w1.heap.size):=hid (by have:=hg1.size;simpa using this);have c0:w1.cell? ⟨w.heap.size,0,none⟩=some (.int .i64 1):=(by rw [cell_of_row _ w.heap.size 0 _ _ _ hq1];rfl);have c1:w1.cell? ⟨w.heap.size,1,none⟩=some (.string t.x.text):=(by rw [cell_of_row _ w.heap.size 1 _ _ _ hq1];rfl);have c2:w1.cell? ⟨w.heap.size,2,none⟩=some (.slice Ak m ck):=(by rw [cell_of_row _ w.heap.size 2 _ _ _ hq1];rfl);have hrow1:RowB (w.heap.size+1) w1 (.slice (some ⟨w.heap.size+1,0,none⟩) n1 n1) (List.replicate n1 false):=(by have h:=rowB_made hown1;rw [HSZ.out]at h;exact h);clear hq1 hown1 hg1))
 go_loopw [8] (fun i wr=>∃(k:Nat) (O:List Bool),k≤s.size∧i=.int .i64 k∧O.length=n1∧Hid (RowB (w.heap.size+1) wr (.slice (some ⟨w.heap.size+1,0,none⟩) n1 n1) O)∧Hid (∀j,On O j↔∃i,i<k∧j=i+1∧On A i∧ChAt s t.x.text i)∧Hid (wr.heap[w.heap.size]? =some (.cells #[.int .i64 1,.string t.x.text,.slice Ak m ck] 92 (0,0)))∧Below w.heap.size w wr) (fun i _=>s.size-(intOf i).toNat)
 case atStart=>exact⟨0,_,Nat.zero_le _,rfl,List.length_replicate,hid hrow1,hid (fun j=>⟨fun h=>absurd h (on_rep _ _),fun⟨i,h,_⟩=>absurd h (by omega)⟩),HQ1,hbel1⟩
 case round=>
  clear hrow1 hbel1 HQ1 c0 c1 c2
  obtain⟨k,O,hk,rfl,hO,HR,HE,HQ,hbel⟩:=hrel
  by_cases hlt:k<s.size
  ·have hkz:(k:Int)<(s.size:Int):=by omega
   have hkA:k<A.length:=by rw [HAl.out];omega
   obtain⟨aA,cA,eA,hAb,hAc⟩:=HasB.cell HA.out hkA
   rw [HAl.out]at eA
   cases eA
   have HGA:Hid (On A k↔A[k]=true):=hid (on_get hkA)
   generalize A[k]=ax at hAc HGA
   have HC0:Hid (∀h:k<s.size,True):=hid fun _=>trivial
   obtain⟨k1,hk1⟩:∃k1,k1=k+1:=⟨_,rfl⟩
   have e1:((k:Int)+1).toNat=k1:=by omega
   have e2:(0:Int)≤(k:Int)+1:=by omega
   have e3:(k:Int)+1<(n1:Int):=by omega
   have e4:IntKind.i64.wrap ((k:Int)+1)=(k:Int)+1:=by rw [IntKind.wrap_i64];omega
   have hk1n:k1<n1:=by omega
   have HK1:=hid hk1
   clear hkA hk1
   go_wp2
   go_loopw [9] (fun v9 wq=>∃(q:Nat) (U:List Bool),v9=.int .i64 q∧q≤t.x.text.size∧U.length=n1∧Hid (RowB (w.heap.size+1) wq (.slice (some ⟨w.heap.size+1,0,none⟩) n1 n1) U)∧Hid (∀j,On U j↔On O j∨(j=k1∧Tru ax∧∃r,∃h:r<t.x.text.size,r<q∧t.x.text[r]=s[k]))∧Hid (ax=false→q=0)∧Hid (wq.heap[w.heap.size]? =some (.cells #[.int .i64 1,.string t.x.text,.slice Ak m ck] 92 (0,0)))∧Below w.heap.size w wq) (fun v9 _=>t.x.text.size-(intOf v9).toNat)
   case atStart=>exact⟨0,O,rfl,Nat.zero_le _,hO,HR,hid (fun j=>⟨fun h=>.inl h,fun h=>h.elim id (fun⟨_,_,r,_,h,_⟩=>absurd h (by omega))⟩),hid (fun _=>rfl),HQ,hbel⟩
   case round=>
    clear HR HQ hbel
    obtain⟨q,U,rfl,hq,hU,HR,HEU,H0,HQ,hbel⟩:=hrel
    have c1:wr.cell? ⟨w.heap.size,1,none⟩=some (.string t.x.text):=by rw [cell_of_row _ w.heap.size 1 _ _ _ HQ.out];rfl
    have cA:wr.cell? (aA.add k)=some (.bool ax):=by rw [hbel.cell (by rw [addr_blk];exact hAb)];exact hAc
    have HNXT:Hid (q=t.x.text.size∨ax=false→∀j,On U j↔∃i,i<k+1∧j=i+1∧On A i∧ChAt s t.x.text i):=hid (fun hfin j=>by
     rw [HEU.out j,HE.out j]
     exact ch_fin HGA.out HK1.out hlt hfin)
    by_cases hqt:q<t.x.text.size
    ·have hqz:(q:Int)<(t.x.text.size:Int):=by omega
     have hqd:decide (q<t.x.text.size)=true:=by simp;omega
     cases ax with
     | true =>
      have hkU:k1<U.length:=by rw [hU];exact hk1n
      have hfz:=RowR.frozen HR.out k1
      have HPUT:=hid (fun u=>RowB.put HR.out hkU u)
      have HSE:Hid (∀b j,On (U.set k1 b) j↔(j=k1∧b=true)∨(j≠k1∧On U j)):=hid fun b j=>on_set hkU b
      have hcell:=RowB.at HR.out hkU
      have HUG:Hid (On U k1↔U[k1]=true):=hid (on_get hkU)
      generalize U[k1]=vb at hcell HUG
      clear hkU
      cases vb with
      | true =>
       go_wp2_with fail
       go_region
       have hbel2:=below_set (j:=k1) (u:=.bool true) hbel (show w.heap.size≤w.heap.size+1 by omega)
       have HQ2:Hid ((wr.setCell ⟨w.heap.size+1,k1,none⟩ (.bool true)).heap[w.heap.size]? =some (.cells #[.int .i64 1,.string t.x.text,.slice Ak m ck] 92 (0,0))):=hid ((Below.heap_setCell wr ⟨w.heap.size+1,k1,none⟩ _ w.heap.size (by simp)).trans HQ.out)
       have HR2:=hid (HPUT.out true).1
       go_wp2
       go_roundw
       case rel=>
        refine⟨q+1,U.set k1 true,by go_num,by omega,by rw [List.length_set];exact hU,hid HR2.out,hid ?_,hid (fun h=>by cases h),hid HQ2.out,by first|exact hbel2|exact below_drewN hbel2 1⟩
        intro j
        rw [HSE.out true j,HEU.out j]
        exact ch_on (HUG.out.2 (by simp)) (HEU.out k1)
       case measure=>simp [intOf];omega
      | false =>
       by_cases heq:t.x.text[q]=s[k]
       ·have hbq:((t.x.text[q].toNat:Int)==(s[k].toNat:Int))=true:=by rw [heq];simp
        have HEQ:=hid heq
        clear heq
        go_wp2_with fail
        go_region
        have hbel2:=below_set (j:=k1) (u:=.bool true) hbel (show w.heap.size≤w.heap.size+1 by omega)
        have HQ2:Hid ((wr.setCell ⟨w.heap.size+1,k1,none⟩ (.bool true)).heap[w.heap.size]? =some (.cells #[.int .i64 1,.string t.x.text,.slice Ak m ck] 92 (0,0))):=hid ((Below.heap_setCell wr ⟨w.heap.size+1,k1,none⟩ _ w.heap.size (by simp)).trans HQ.out)
        have HR2:=hid (HPUT.out true).1
        go_wp2
        go_roundw
        case rel=>
         refine⟨q+1,U.set k1 true,by go_num,by omega,by rw [List.length_set];exact hU,hid HR2.out,hid ?_,hid (fun h=>by cases h),hid HQ2.out,by first|exact hbel2|exact below_drewN hbel2 1⟩
         intro j
         rw [HSE.out true j,HEU.out j]
         exact ch_hit hqt HEQ.out
        case measure=>simp [intOf];omega
       ·have hbq:((t.x.text[q].toNat:Int)==(s[k].toNat:Int))=false:=byte_ne heq
        have HEQ:=hid heq
        clear heq
        go_wp2_with fail
        go_region
        have hbel2:=below_set (j:=k1) (u:=.bool false) hbel (show w.heap.size≤w.heap.size+1 by omega)
        have HQ2:Hid ((wr.setCell ⟨w.heap.size+1,k1,none⟩ (.bool false)).heap[w.heap.size]? =some (.cells #[.int .i64 1,.string t.x.text,.slice Ak m ck] 92 (0,0))):=hid ((Below.heap_setCell wr ⟨w.heap.size+1,k1,none⟩ _ w.heap.size (by simp)).trans HQ.out)
        have HR2:=hid (HPUT.out false).1
        go_wp2
        go_roundw
        case rel=>
         refine⟨q+1,U.set k1 false,by go_num,by omega,by rw [List.length_set];exact hU,hid HR2.out,hid ?_,hid (fun h=>by cases h),hid HQ2.out,by first|exact hbel2|exact below_drewN hbel2 1⟩
         intro j
         rw [HSE.out false j,HEU.out j]
         exact ch_miss hqt HEQ.out (fun h=>absurd (HUG.out.1 h) (by simp)) (HEU.out k1)
        case measure=>simp [intOf];omega
     | false =>
      have HNX:=hid (HNXT.out (.inr rfl))
      go_wp2
      go_roundw
      case rel=>exact⟨k+1,U,by omega,by go_num,hU,HR,hid (HNX.out),HQ,hbel⟩
      case measure=>simp [intOf];omega
    ·have hqz:¬(q:Int)<(t.x.text.size:Int):=by omega
     have hqd:decide (q<t.x.text.size)=false:=by simp;omega
     have HNX:=hid (HNXT.out (.inl (by omega)))
     go_wp2
     go_roundw
     case rel=>exact⟨k+1,U,by omega,by go_num,hU,HR,hid (HNX.out),HQ,hbel⟩
     case measure=>simp [intOf];omega
  ·have hkz:¬(k:Int)<(s.size:Int):=by omega
   go_wp2
   go_ret
   exact⟨_,O,rfl,hid (RowR.mono HR.out (by omega)),by rw [hO];exact HN1.out,hid (by
    intro j hj
    rw [HE.out j]
    constructor
    ·rintro⟨i,h1,h3,h4,h5⟩;exact⟨i,h4,by unfold StepM;rw [h2,if_pos rfl];exact⟨h5,h3⟩⟩
    ·rintro⟨i,h4,h5⟩
     unfold StepM at h5
     rw [h2,if_pos rfl]at h5
     exact⟨i,by obtain⟨h6,_⟩:=h5.1;omega,h5.2,h4,h5.1⟩),hid hbel⟩
end
section
open Go.RowKit

theorem ends_of_maybe (s:ByteArray)(d:Nat)(t:Pat)(h2:t.x.op=5):EndsC s d t:=by
 intro Ak m ck v A w hK hm hA hl hs ht hmm
 obtain⟨i0,hi0,hz0,hz1,hz2⟩:=info_parts infoBool
 rw [h2]
 obtain⟨n1,hn1⟩:∃n1,n1=s.size+1:=⟨_,rfl⟩
 have hnz:(s.size:Int)+1=(n1:Int):=by omega
 have hn9:n1≤1048577:=by omega
 have hs9:s.size≤9223372036854775807:=by omega
 have HN1:=hid hn1
 rw [←hn1]at hl
 obtain⟨Av,cv,rfl⟩:=hA.form
 rw [hl]at hA ⊢
 have HAl:=hid hl
 have HA:=hid hA
 have HK:=hid hK
 have HM:=hid hm
 have hn0:0<n1:=by omega
 have hb2:i0.bytes*n1≤281474976710656:=by rw [hz2];omega
 have hb3:n1≤maxLen:=by unfold maxLen;omega
 clear hz2 hK hm hA hl hn1
 have HSZ:Hid (∀o:Obj,(w.alloc o).heap.size=w.heap.size+1):=hid (fun o=>by simp)
 go_enter Tryz.func96,Tryz.ntmps96
 go_wp2_with (first
  |(at_make;refine wpList_make_full _ rfl _ _ 136 rfl (w.heap.size+1) 4 i0 (.bool false) 1 Tryz.underlying136 hi0 hz0 hz1 _ _ _ _ n1 rfl rfl (by first | rfl | exact hnz) (by first | rfl | exact hnz) hb2 hb3 (by simp) ?_;intro w1 hown1 hg1;have hbel1:Below w.heap.size w w1:=(below_al (Below.refl _ _) _).grown hg1 (by simp) (by simp);have hq1:w1.heap[w.heap.size]? =some (.cells #[.int .i64 5,.string t.x.text,.slice Ak m ck] 92 (0,0)):=(hg1.block _ (by simp) (by simp)).trans (heap_alloc_new w _);have HQ1:=hid hq1;have HZ1:Hid (w.heap.size+1≤w1.heap.size):=hid (by have:=hg1.size;simpa using this);have c0:w1.cell? ⟨w.heap.size,0,none⟩=some (.int .i64 5):=(by rw [cell_of_row _ w.heap.size 0 _ _ _ hq1];rfl);have c1:w1.cell? ⟨w.heap.size,1,none⟩=some (.string t.x.text):=(by rw [cell_of_row _ w.heap.size 1 _ _ _ hq1];rfl);have c2:w1.cell? ⟨w.heap.size,2,none⟩=some (.slice Ak m ck):=(by rw [cell_of_row _ w.heap.size 2 _ _ _ hq1];rfl);have hrow1:RowB (w.heap.size+1) w1 (.slice (some ⟨w.heap.size+1,0,none⟩) n1 n1) (List.replicate n1 false):=(by have h:=rowB_made hown1;rw [HSZ.out]at h;exact h);clear hq1 hown1 hg1)
  |((with_reducible show wpList _ _ _ ((⟨_,.call { callee:=.builtin .copy,args:=_,argTypes:=_ },_,_,_,_⟩:Oper)::_) _ _);go_loud (refine wpList_copy_bools rfl _ _ rfl (w.heap.size+1) (w.heap.size+1) n1 n1 (List.replicate n1 false) A rfl hrow1 _ rfl (HasR.below HA.out hbel1) HAl.out hn0 ?_);intro w2 hrow2 hg2 z2;have hbel2:Below w.heap.size w w2:=hbel1.grown hg2 hbel1.size (fun q hq=>by cases hq;omega);have hq2:w2.heap[w.heap.size]? =some (.cells #[.int .i64 5,.string t.x.text,.slice Ak m ck] 92 (0,0)):=(hg2.block _ (by have:=HZ1.out;omega) (by simp)).trans HQ1.out;have HQ2:=hid hq2;have c0:w2.cell? ⟨w.heap.size,0,none⟩=some (.int .i64 5):=(by rw [cell_of_row _ w.heap.size 0 _ _ _ hq2];rfl);have c2:w2.cell? ⟨w.heap.size,2,none⟩=some (.slice Ak m ck):=(by rw [cell_of_row _ w.heap.size 2 _ _ _ hq2];rfl);have HROW:=hid hrow2;clear hq2 hrow2 hg2 hrow1 hbel1))
 by_cases hm1:m=1
 ·obtain⟨k0,hk0⟩:∃k0,t.kids=[k0]:=List.length_eq_one_iff.1 (by rw [←HM.out];exact hm1)
  have hK0:=HK.out 0 (by rw [hk0];simp)
  obtain⟨a,x,rfl,hab,hx,hcall⟩:=hK0
  have hkk:t.kids[0]'(by rw [hk0];simp)=k0:=by simp [hk0]
  rw [hkk]at hcall
  have HX:=hid hx
  have HCALL:=hid hcall
  have HK0:=hid hk0
  have hmz:((m:Int)==1)=true:=by rw [hm1];rfl
  have hmp:(0:Int)<(m:Int):=by omega
  clear hx hcall hkk hk0 hm1
  go_simp
  go_loopg [7] (n1+1) (fun G o wr=>∃(O:List Bool),n1+1-cntB O≤G∧O.length=n1∧Hid (RowB (w.heap.size+1) wr o O)∧Hid (Sofar (kidM s d k0) A O)∧Hid (5=5→O=A)∧Hid (wr.heap[w.heap.size]? =some (.cells #[.int .i64 5,.string t.x.text,.slice (some a) m ck] 92 (0,0)))∧Below w.heap.size w wr)
  case atStart=>exact⟨A,by omega,HAl.out,HROW,hid (sofar_start _ A),hid (fun _=>rfl),HQ2,hbel2⟩
  case round=>
   clear HROW hbel2 HQ2 c0 c2
   obtain⟨O,hG,hO,HR,HS,H5,HQ,hbel⟩:=hrel
   have c0:wr.cell? ⟨w.heap.size,0,none⟩=some (.int .i64 5):=by rw [cell_of_row _ w.heap.size 0 _ _ _ HQ.out];rfl
   have c2:wr.cell? ⟨w.heap.size,2,none⟩=some (.slice (some a) m ck):=by rw [cell_of_row _ w.heap.size 2 _ _ _ HQ.out];rfl
   obtain⟨Ao,co,rfl⟩:=HasB.form (RowR.has bE_len HR.out)
   have HO:=hid hO
   rw [hO]at HR ⊢
   have hz:a.add (0*3)=a:=by unfold Addr.add;rfl
   have hx':=HX.out
   rw [hz]at hab hx'
   obtain⟨d0,d1,d2⟩:=hx'.below hbel hab
   have HC:=hid (HCALL.out (.slice Ao n1 co) O wr hbel (RowR.has bE_len HR.out) (by rw [hO];exact HN1.out))
   have HB:=hid hbel
   clear hx' hO hbel
   go_wp2_with (first
    |(go_at_call 96;(refine(HC.out).mono ?_);rintro e w4 ⟨o2,O2,rfl,HR2,hl2,HE2,HB2⟩;have HL2:=hid (hl2.trans HN1.out.symm);have HRo:=hid (RowR.below HR.out HB2.out);clear hl2)
    |(go_at_call 121;(refine(sboth_any (.slice Ao n1 co) o2 O O2 w4 (RowR.has bE_len HRo.out) (RowR.has bE_len HR2.out) (by rw [HO.out,HL2.out]) (by rw [HO.out];omega)).mono ?_);rintro e w5 ⟨o3,rfl,HR3,HB3⟩;have HRp:=hid (RowR.below HRo.out HB3.out)))
   obtain⟨Au,cu,rfl⟩:=HasB.form (RowR.has bE_len HR3.out)
   have HU:Hid ((orL O O2).length=n1):=hid (by rw [orL_len (by rw [HO.out,HL2.out])];exact HO.out)
   rw [HU.out]at HR3 ⊢
   have hBw:=hid (below_step HB.out (below_step HB2.out HB3.out))
   have HQ5:Hid (w5.heap[w.heap.size]? =some (.cells #[.int .i64 5,.string t.x.text,.slice (some a) m ck] 92 (0,0))):=hid (((below_step HB2.out HB3.out).block _ (Array.getElem?_eq_some_iff.1 HQ.out).1).trans HQ.out)
   have HUO:Hid (∀i,On (orL O O2) i↔On O i∨On O2 i):=hid fun i=>on_or (by rw [HO.out,HL2.out]) i
   have hz4:Hid (w.heap.size+1≤w4.heap.size):=hid (by have:=HB2.out.size;have:=(Array.getElem?_eq_some_iff.1 HQ.out).1;omega)
   obtain⟨U,hU⟩:∃U,U=orL O O2:=⟨_,rfl⟩
   rw [←hU]at HR3 HU HUO
   clear hU c0 c2 d0 d1 d2 HRo HR HC
   go_loopw [13,14] (fun v13 v14 wq=>∃(k:Nat) (q:Bool),v13=.bool q∧v14=.int .i64 k∧k≤n1∧Hid (Tru q↔∃i,i<k∧U[i]? ≠O[i]?)∧Below w5.heap.size w5 wq) (fun _ v14 _=>n1-(intOf v14).toNat)
   case atStart=>exact⟨0,false,rfl,rfl,Nat.zero_le _,hid ⟨fun h=>absurd (show false=true from h) (by simp),fun⟨i,h,_⟩=>absurd h (by omega)⟩,Below.refl _ _⟩
   case round=>
    obtain⟨k,q,rfl,rfl,hk,HIFF,hbq⟩:=hrel
    by_cases hlt:k<n1
    ·have hkz:(k:Int)<(n1:Int):=by omega
     have hkU:k<U.length:=by rw [HU.out];exact hlt
     have hkO:k<O.length:=by rw [HO.out];exact hlt
     obtain⟨au,cu2,eu,hub,huc⟩:=HasB.cell (HasR.below (RowR.has bE_len HR3.out) hbq) hkU
     obtain⟨ao,co2,eo,hob,hoc⟩:=HasB.cell (HasR.below (RowR.has bE_len HRp.out) hbq) hkO
     rw [HU.out]at eu
     rw [HO.out]at eo
     cases eu
     cases eo
     have HGU:Hid (U[k]? =some U[k]):=hid (List.getElem?_eq_getElem hkU)
     have HGO:Hid (O[k]? =some O[k]):=hid (List.getElem?_eq_getElem hkO)
     generalize U[k]=ux at huc HGU
     generalize O[k]=ox at hoc HGO
     clear hkU hkO
     cases q
     ·cases ux
      all_goals
       cases ox
       all_goals
        go_wp2_with fail
        go_quiet (fail)
        have hbq2:Below w5.heap.size w5 (wr.drewN nq):=below_drewN hbq _
        go_wp2
        go_roundw
        case rel=>
         exact⟨k+1,_,rfl,by go_num,by omega,hid (iff_step HIFF.out HGU.out HGO.out),hbq2⟩
        case measure=>simp [intOf];omega
     ·go_wp2_with fail
      go_quiet (fail)
      have hbq2:Below w5.heap.size w5 (wr.drewN nq):=below_drewN hbq _
      go_wp2
      go_roundw
      case rel=>
       refine⟨k+1,true,rfl,by go_num,by omega,hid ?_,hbq2⟩
       obtain⟨i,hi,hne⟩:=HIFF.out.1 rfl
       exact⟨fun _=>⟨i,by omega,hne⟩,fun _=>rfl⟩
      case measure=>simp [intOf];omega
    ·have hkz:¬(k:Int)<(n1:Int):=by omega
     have hkn:k=n1:=by omega
     have HEND:Hid (q=false→U=O):=hid (by
      intro hq
      apply List.ext_getElem?
      intro i
      by_cases hi:i<n1
      ·by_cases e:U[i]? =O[i]?
       ·exact e
       ·exact absurd (show q=true from HIFF.out.2 ⟨i,by omega,e⟩) (by rw [hq];simp)
      ·rw [List.getElem?_eq_none (by rw [HU.out];omega),List.getElem?_eq_none (by rw [HO.out];omega)])
     have HMORE:Hid (q=true→U≠O):=hid (by
      intro hq e
      obtain⟨i,_,hne⟩:=HIFF.out.1 hq
      exact hne (by rw [e]))
     have cq:wr.cell? ⟨w.heap.size,0,none⟩=some (.int .i64 5):=by rw [cell_of_row _ w.heap.size 0 _ _ _ ((hbq.block _ (Array.getElem?_eq_some_iff.1 HQ5.out).1).trans HQ5.out)];rfl
     have HQq:Hid (wr.heap[w.heap.size]? =some (.cells #[.int .i64 5,.string t.x.text,.slice (some a) m ck] 92 (0,0))):=hid ((hbq.block _ (Array.getElem?_eq_some_iff.1 HQ5.out).1).trans HQ5.out)
     have HRq:=hid (RowR.mono (RowR.below HR3.out hbq) hz4.out)
     have HBq:=hid (below_step hBw.out hbq)
     clear hkn hbq HIFF
     have HOA:=hid (H5.out (by simp))
     cases q
     all_goals
      go_wp2
      go_ret
      exact⟨_,U,rfl,hid (RowR.mono HRq.out (by omega)),by rw [HU.out];exact HN1.out,hid (by
       have h:=ends_maybe (A:=O) HE2.out (by rw [HL2.out,HU.out]) HUO.out
       rw [HOA.out]at h
       exact EndsOf.congr h (fun i j=>by unfold StepM;rw [HK0.out];simp [h2])),HBq⟩
 ·have hmz:((m:Int)==1)=false:=by rw [beq_eq_false_iff_ne];omega
  have HST:Hid (∀i j,StepM s (kidM s d) t i j↔i=j):=hid fun i j=>step_idle (.inr h2) (by rw [←HM.out];exact hm1) i j
  go_simp
  go_loopg [7] 0 (fun G o wr=>o=.slice (some ⟨w.heap.size+1,0,none⟩) n1 n1∧wr=w2)
  case atStart=>exact⟨rfl,rfl⟩
  case round=>
   obtain⟨rfl,rfl⟩:=hrel
   go_wp2
   go_ret
   exact⟨_,A,rfl,hid (RowR.mono HROW.out (by omega)),by rw [HAl.out];exact HN1.out,hid (EndsOf.congr (ends_self A) (fun i j=>(HST.out i j).symm)),hid hbel2⟩
end
section
open Go.RowKit

def TxFit:Nat→List Pat→Prop
 | 0,_=>True
 | d+1,l=>∀p,p∈l→p.x.text.size≤9223372036854775807∧TxFit d p.kids
theorem ends_c (s:ByteArray)(d:Nat)(t:Pat):EndsC s d t:=by
 by_cases h1:t.x.op=1
 ·exact ends_chars s d t h1
 ·by_cases h2:t.x.op=2
  ·exact ends_seq s d t h2
  ·by_cases h3:t.x.op=3
   ·exact ends_alts s d t h3
   ·by_cases h4:t.x.op=4
    ·exact ends_of_star s d t h4
    ·by_cases h5:t.x.op=5
     ·exact ends_of_maybe s d t h5
     ·exact ends_other s d t h1 h2 h3 h4 h5
def EndsD (s:ByteArray)(d:Nat):Prop:=∀(r:PatR) (t:Pat) (w:World) (v:Value) (A:List Bool),RdN patK d w r t→TxFit d t.kids→t.x.text.size≤9223372036854775807→HasB w v A→A.length=s.size+1→
 Calls Tryz.prog 96 #[.agg #[.int .i64 r.op,.string r.text,r.kv],.string s,v] w (EndsPost s (Mt s d t) A w)
theorem ends_tree (s:ByteArray)(hs:s.size≤1048576):∀d,EndsD s d
 | 0 => by
  rintro⟨op,text,kv⟩ ⟨⟨xo,xt⟩,l⟩ w v A ⟨⟨h1,h2⟩,hk⟩ _ ht hA hl
  obtain rfl:op=xo:=h1
  obtain rfl:text=xt:=h2
  obtain⟨hl0,C,cap,hkv,_,_⟩:=hk
  obtain rfl:l=[]:=hl0
  obtain rfl:kv=.slice C 0 cap:=hkv
  rw [mt_step]
  exact ends_c s 0 ⟨⟨op,text⟩,[]⟩ C 0 cap v A w (fun i h=>absurd h (Nat.not_lt_zero i)) rfl hA hl hs ht (by omega)
 | d + 1 => by
  rintro⟨op,text,kv⟩ ⟨⟨xo,xt⟩,l⟩ w v A ⟨⟨h1,h2⟩,hk⟩ hf ht hA hl
  obtain rfl:op=xo:=h1
  obtain rfl:text=xt:=h2
  obtain⟨R,⟨C,cap,hkv,hn,hc⟩,hRl,hRk⟩:=hk
  obtain rfl:kv=.slice C R.length cap:=hkv
  rw [mt_step]
  refine ends_c s (d+1) ⟨⟨op,text⟩,l⟩ C R.length cap v A w (fun i h=>?_) hRl hA hl hs ht hn
  have h1:i<R.length:=Nat.lt_of_lt_of_eq h hRl.symm
  obtain⟨a,e1,e2,e3⟩:=HasP.pk hc i h1
  exact⟨a,R[i],e1,e2,e3,fun v A W hb hA hl=>ends_tree s hs d _ _ W v A (RdN.below (hRk i h1 h) hb) (hf _ (List.getElem_mem h)).2 (hf _ (List.getElem_mem h)).1 hA hl⟩
end
end Go.Proofs.YtecladbckadijaaGreatDoor
