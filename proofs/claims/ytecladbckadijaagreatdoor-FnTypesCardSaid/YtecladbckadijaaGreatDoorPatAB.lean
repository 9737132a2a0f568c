/- MERGED for a claim. -/
import Derived.Test.YtecladbckadijaaGreatDoorPatW
import Derived.Deep.RegionLaw
set_option linter.unusedVariables false
set_option linter.unusedSimpArgs false
set_option maxRecDepth 100000
set_option maxHeartbeats 16000000
namespace Go.Proofs.YtecladbckadijaaGreatDoor
open Go.Lib (hid)
section
open Go.RowKit

theorem step_pat_append {w:World}{ops:Array Oper}{o:Oper}{a:Act}{K:Act→World→Prop}{Q:Exit→Act→World→Prop}{E:Prop}(hgd:o.guard=none)(s x:Operand)
  (ho:o.op=.call { callee:=.builtin .append,args:=#[s,x],argTypes:=#[90,90] })
  (B n:Nat) (v:Value) (L:List PatR) (hs:a.eval s=v) (hrow:RowP B w v L) (hn:L.length=n)
  (y:PatR) (ad:Addr) (c':Nat) (hx:a.eval x=.slice (some ad) 1 c') (hnews:∀j u,y.enc[j]? =some u→w.cell? (ad.add j)=some u) (hy:∀u∈y.enc,u.oneCell'=true)
  (hlen:n+1≤1048576) (hbase:B≤w.heap.size) (q:Nat) (hq:q=n+1)
  (h:∀g' c'' w',RowP B w' (.slice (some ⟨g',0,none⟩) q c'') (L++ [y])→w.grownBy w' v.ownBlock→(some g'=v.ownBlock∨g'=w.heap.size)→K (a.put o.dst (.slice (some ⟨g',0,none⟩) q c'')) w'):
  if Region.wanted o (yielded ops a.tmps)=true then Oper.wp Tryz.prog o a w K Q else E:=by
 have hw:Region.wanted o (yielded ops a.tmps)=true:=by simp [Region.wanted,hgd]
 rw [if_pos hw]
 obtain⟨i0,hi,hz0,hz1,hz2⟩:=info_parts infoPat
 subst hn
 subst hq
 obtain⟨v',w',hr,h2,h3,h4,h5⟩:=run_append_own_at (P:=Tryz.prog) w B 90 o.type 92 i0 (.agg #[.int .i64 0,.string ⟨#[]⟩,.slice none 0 0]) 3 48 Tryz.underlying90 hi hz0 hz1 hz2 rfl (by decide) v L.length (L.flatMap PatR.enc) hrow ad 1 c' y.enc rfl hnews hy (by unfold maxLen;omega) (by omega) hbase
 unfold Oper.wp execOp
 simp only [ho,resolve,invoke,builtin,Sem.run_bind,Sem.run_pure,Result.andThen_ok,List.map_toArray,List.map_cons,List.map_nil,hs,hx,hr]
 rcases h2.2 with ⟨_,h6⟩|⟨g',cap',cur,h6,_⟩
 ·omega
 ·subst h6
  refine h g' cap' w' ?_ h3 ?_
  ·unfold RowP RowR
   rw [List.length_append,List.flatMap_append,List.flatMap_singleton]
   exact h2
  ·rcases h5 with h6|h6
   ·exact .inl h6
   ·exact .inr (Option.some.inj h6)
theorem news_pat (w:World)(y:PatR)(t:TypeId):∀j u,y.enc[j]? =some u→(w.alloc (.cells #[.int .i64 y.op,.string y.text,y.kv] t)).cell? ((⟨w.heap.size,0,none⟩:Addr).add j)=some u:=World.news_of_block (heap_alloc_new w _)
theorem turns_grown' {S:Nat→Prop}{W w w':World}{j:Option Nat}(h:TurnsAt S W w)(hg:w.grownBy w' j)(hn:∀g,j=some g→W.heap.size≤g):TurnsAt S W w':=
 ⟨hg.os.trans h.os,hg.tape.trans h.tape,hg.output.trans h.output,Nat.le_trans h.size hg.size,fun q hq hs=>(hg.block q (Nat.lt_of_lt_of_le hq h.size) (fun e=>absurd (hn _ e.symm) (Nat.not_le.2 hq))).trans (h.block q hq hs)⟩
theorem tw_round {d B n:Nat}{wr w2:World}{v:Value}{lk:List Pat}{t:Pat}{A:Option Addr}{c:Nat}{S S':Nat→Prop}(hO:OwL patK (d+1) B wr v lk S)(hn:n=lk.length)(hb:Below wr.heap.size wr w2)(hB:B≤wr.heap.size)(hp:OwN patK d wr.heap.size w2 ⟨t.x.op,t.x.text,.slice A t.kids.length c⟩ t S'):
  ∃R:List PatR,RowP B w2 v R∧R.length=n∧(∀g,v.ownBlock=some g→B≤g∧g<wr.heap.size)∧∀g' c' w4 o,RowP B w4 (.slice (some ⟨g',0,none⟩) (n+1) c') (R++ [⟨t.x.op,t.x.text,.slice A t.kids.length c⟩])→(w2.alloc o).grownBy w4 v.ownBlock→(some g'=v.ownBlock∨g'=(w2.alloc o).heap.size)→∃S'',OwL patK (d+1) B w4 (.slice (some ⟨g',0,none⟩) (n+1) c') (lk++ [t]) S'':=by
 have hO2:=hO.below hb
 obtain⟨R,hrow,hRl,hgrow⟩:=hO2.grow
 refine⟨R,hrow,hRl.trans hn.symm,fun g hg=>?_,fun g' c' w4 o h1 h2 h3=>?_⟩
 ·rcases hO.form with ⟨rfl,_⟩|⟨g2,cap,rfl,h1,h2⟩
  ·cases hg
  ·obtain rfl:g2=g:=Option.some.inj hg
   exact⟨h1,h2⟩
 ·refine⟨_,hgrow (hp.mono hB) (fun q h1 h2=>absurd (hO.lt q h1).2 (Nat.not_lt.2 (hp.lt q h2).1)) h1 ((World.grownBy_alloc w2 o _).trans h2) ?_⟩
  rcases h3 with h3|h3
  ·exact .inl h3
  ·exact .inr ⟨g',rfl,by rw [h3];simp⟩
def TwOut (d:Nat)(t:Pat)(w:World)(e:Ending)(w':World):Prop:=∃(A:Option Addr) (c:Nat) (S:Nat→Prop),e=.returned (.agg #[.int .i64 t.x.op,.string t.x.text,.slice A t.kids.length c])∧OwN patK d w.heap.size w' ⟨t.x.op,t.x.text,.slice A t.kids.length c⟩ t S∧Below w.heap.size w w'
def TwinD (d:Nat):Prop:=∀(r:PatR) (t:Pat) (w:World),RdN patK d w r t→Few d t.kids→Calls Tryz.prog 138 #[.agg #[.int .i64 r.op,.string r.text,r.kv]] w (TwOut d t w)
theorem twin_of {d:Nat}(ih:TwinD d):TwinD (d+1):=by
 rintro⟨op,text,kv⟩ ⟨⟨xo,xt⟩,l⟩ w ⟨⟨h1,h2⟩,hk⟩ hf
 obtain rfl:op=xo:=h1
 obtain rfl:text=xt:=h2
 obtain⟨R,⟨A,cap,hkv,hn',hc⟩,hRl,hRk⟩:=hk
 obtain rfl:kv=.slice A R.length cap:=hkv
 obtain⟨hf1,hf2⟩:=hf
 obtain⟨n,hnn⟩:∃n,n=l.length:=⟨_,rfl⟩
 have HN:Hid (n=l.length):=hid hnn
 have hn31:n≤31:=by rw [hnn];exact hf1
 have HRL:Hid (R.length=n):=hid (hRl.trans hnn.symm)
 rw [HRL.out]
 rw [show patK.enc=PatR.enc from rfl,show patK.z=3 from rfl]at hc
 have HC:∀i,i<n→∃(a:Addr) (x:PatR) (t:Pat),A=some a∧(a.add (i*3)).block<w.heap.size∧Pk w (a.add (i*3)) x∧Hid (l.take (i+1)=l.take i++ [t])∧∀W,Below w.heap.size w W→Calls Tryz.prog 138 #[.agg #[.int .i64 x.op,.string x.text,x.kv]] W (TwOut d t W):=fun i hi=>by
  have h1:i<R.length:=by rw [HRL.out];exact hi
  obtain⟨a,e1,e2,e3⟩:=HasP.pk hc i h1
  have hl:i<l.length:=by rw [←hnn];exact hi
  exact⟨a,R[i],l[i],e1,e2,e3,hid (List.take_succ_eq_append_getElem hl),fun W hb=>ih _ _ W (RdN.below (hRk i h1 hl) hb) (hf2 _ (List.getElem_mem hl))⟩
 clear hc hRk hRl hnn hf1 hf2 ih hn'
 have HO0:Hid (∀W,OwL patK (d+1) (w.heap.size+3) W (.slice none 0 0) (l.take 0) (fun _=>False)):=hid fun W=>owL_nil patK (d+1) _ W
 have hW:Hid (∀W3,W3=(((w.alloc (.cells #[.int .i64 op,.string text,.slice A n cap] 92)).alloc (.cells #[.int .i64 0,.string ⟨#[]⟩,.slice none 0 0] 92)).alloc (.cells #[.int .i64 op,.string text,.slice none 0 0] 92))→W3.heap.size=w.heap.size+3∧Below w.heap.size w W3∧W3.heap[w.heap.size]? =some (.cells #[.int .i64 op,.string text,.slice A n cap] 92 (0,0))∧W3.heap[w.heap.size+1]? =some (.cells #[.int .i64 0,.string ⟨#[]⟩,.slice none 0 0] 92 (0,0))∧W3.heap[w.heap.size+1+1]? =some (.cells #[.int .i64 op,.string text,.slice none 0 0] 92 (0,0))):=hid (by
  rintro W3 rfl
  have a1:=heap_alloc_new w (.cells #[.int .i64 op,.string text,.slice A n cap] 92)
  have a2:=heap_alloc_new (w.alloc (.cells #[.int .i64 op,.string text,.slice A n cap] 92)) (.cells #[.int .i64 0,.string ⟨#[]⟩,.slice none 0 0] 92)
  have a3:=heap_alloc_new ((w.alloc (.cells #[.int .i64 op,.string text,.slice A n cap] 92)).alloc (.cells #[.int .i64 0,.string ⟨#[]⟩,.slice none 0 0] 92)) (.cells #[.int .i64 op,.string text,.slice none 0 0] 92)
  refine⟨by simp,((below_al (below_al (below_al (Below.refl w.heap.size w) _) _) _)),?_,?_,?_⟩
  ·exact((below_al (below_al (Below.refl _ _) _) _).block _ (by simp)).trans a1
  ·exact((below_al (Below.refl _ _) _).block _ (by simp)).trans (by simpa using a2)
  ·simpa using a3)
 go_enter Tryz.func138,Tryz.ntmps138
 go_wp2
 obtain⟨W3,hW3⟩:∃W3,W3=(((w.alloc (.cells #[.int .i64 op,.string text,.slice A n cap] 92)).alloc (.cells #[.int .i64 0,.string ⟨#[]⟩,.slice none 0 0] 92)).alloc (.cells #[.int .i64 op,.string text,.slice none 0 0] 92)):=⟨_,rfl⟩
 have HW3:=hid (hW.out W3 hW3)
 rw [←hW3]
 clear hW3 hW
 go_loopw [4] (fun i wr=>∃(k:Nat) (v:Value) (S:Nat→Prop),k≤n∧i=.int .i64 k∧Hid (OwL patK (d+1) (w.heap.size+3) wr v (l.take k) S)∧wr.heap[w.heap.size+1+1]? =some (.cells #[.int .i64 op,.string text,v] 92 (0,0))∧RT (w.heap.size+1+1) W3 wr) (fun i _=>n-(intOf i).toNat)
 case atStart=>exact⟨0,.slice none 0 0,_,Nat.zero_le _,rfl,hid (HO0.out W3),HW3.out.2.2.2.2,TurnsAt.refl _ _⟩
 case round=>
  obtain⟨k,v,S,hk,rfl,HO,hX,hT⟩:=hrel
  obtain⟨hs3,hb3,hq1,hq2,_⟩:=HW3.out
  have hbel:Below w.heap.size w wr:=hb3.trans (hT.below (by omega) (by rintro _ rfl;omega))
  have hr1:wr.heap[w.heap.size]? =some (.cells #[.int .i64 op,.string text,.slice A n cap] 92 (0,0)):=(hT.block _ (by omega) (by omega)).trans hq1
  have d2:wr.cell? ⟨w.heap.size,2,none⟩=some (.slice A n cap):=by rw [cell_of_row _ w.heap.size 2 _ _ _ hr1];rfl
  have e0:wr.cell? ⟨w.heap.size+1+1,0,none⟩=some (.int .i64 op):=by rw [cell_of_row _ (w.heap.size+1+1) 0 _ _ _ hX];rfl
  have e1:wr.cell? ⟨w.heap.size+1+1,1,none⟩=some (.string text):=by rw [cell_of_row _ (w.heap.size+1+1) 1 _ _ _ hX];rfl
  have e2:wr.cell? ⟨w.heap.size+1+1,2,none⟩=some v:=by rw [cell_of_row _ (w.heap.size+1+1) 2 _ _ _ hX];rfl
  have f2:wr.frozen? ⟨w.heap.size+1+1,2,none⟩=false:=by simp [World.frozen?,hX]
  have hwr3:w.heap.size+3≤wr.heap.size:=by have:=hT.size;omega
  have HX:=hid hX
  have HB:=hid hbel
  have HT:=hid hT
  clear hb3 hq1 hr1 hX HO0
  by_cases hlt:k<n
  ·obtain⟨a,x,t,rfl,hab,hx,HTK,hcall⟩:=HC k hlt
   obtain⟨c0,c1,c2⟩:=hx.below hbel hab
   have HCALL:=hid hcall
   have HSZ:=hid hs3
   have HS3:Hid (w.heap.size+1+1<W3.heap.size∧w.heap.size<W3.heap.size∧(a.add (k*3)).block<W3.heap.size):=hid ⟨by omega,by omega,by omega⟩
   have HLK:Hid (k=(l.take k).length):=hid (by rw [List.length_take];have:=HN.out;omega)
   clear hx hcall hbel hq2 hs3 HC hT
   go_wp2
   go_region_law (first
     |(refine step_pat_append rfl _ _ (by rfl) (w.heap.size+3) k v RR (by rfl) (RowR.alloc hrow _) hRRl ⟨t.x.op,t.x.text,.slice A' t.kids.length c'⟩ ⟨w2.heap.size,0,none⟩ 1 (by rfl) (news_pat _ _ _) (pat_cells _ _ _ _ _) (by omega) (by have:=hbm.size;simp at this ⊢;omega) (k+1) rfl ?_
       intro g' c4 w4 hrow4 hg4 hp4
       have hX4:w4.heap[w.heap.size+1+1]? =some (.cells #[.int .i64 op,.string text,v] 92 (0,0)):=(hg4.block _ (by have:=hbm.size;simp at this ⊢;omega) (fun e=>by have h1:=(hgB _ e.symm).1;omega)).trans ((((Below.refl wr.heap.size wr).drew.trans hbm).trans (by exact(below_al (Below.refl _ _) _).mono (by have:=hbm.size;simpa using this))).block _ (by omega) |>.trans HX.out)
       have f4:w4.frozen? ⟨w.heap.size+1+1,2,none⟩=false:=by simp [World.frozen?,hX4]
       have e4:w4.cell? ⟨w.heap.size+1+1,2,none⟩=some v:=by rw [cell_of_row _ (w.heap.size+1+1) 2 _ _ _ hX4];rfl)
     |(go_simp;go_at_call 138;refine(HCALL.out _ (by first | exact HB.out.drew | exact HB.out)).mono ?_;rintro e w2 ⟨A',c',S',rfl,ho,hbm⟩;obtain⟨RR,hrow,hRRl,hgB,hF⟩:=tw_round HO.out HLK.out (by first | exact hbm | exact((Below.refl wr.heap.size wr).drew.trans hbm)) hwr3 ho;have HF:=hid hF;clear hF ho;have hX2:w2.heap[w.heap.size+1+1]? =some (.cells #[.int .i64 op,.string text,v] 92 (0,0)):=(((Below.refl wr.heap.size wr).drew.trans hbm).block _ (by omega)).trans HX.out;have e5:w2.cell? ⟨w.heap.size+1+1,2,none⟩=some v:=(by rw [cell_of_row _ (w.heap.size+1+1) 2 _ _ _ hX2];rfl);have hz5:w.heap.size+1+1<w2.heap.size:=(Array.getElem?_eq_some_iff.1 hX2).1))
   all_goals
    have HR:Hid (∃S'',Hid (OwL patK (d+1) (w.heap.size+3) (w4.setCell ⟨w.heap.size+1+1,2,none⟩ (.slice (some ⟨g',0,none⟩) (k+1) c4)) (.slice (some ⟨g',0,none⟩) (k+1) c4) (l.take (k+1)) S'')∧(w4.setCell ⟨w.heap.size+1+1,2,none⟩ (.slice (some ⟨g',0,none⟩) (k+1) c4)).heap[w.heap.size+1+1]? =some (.cells #[.int .i64 op,.string text,.slice (some ⟨g',0,none⟩) (k+1) c4] 92 (0,0))∧RT (w.heap.size+1+1) W3 (w4.setCell ⟨w.heap.size+1+1,2,none⟩ (.slice (some ⟨g',0,none⟩) (k+1) c4))):=hid (by
     obtain⟨S'',hS''⟩:=HF.out g' c4 w4 _ hrow4 hg4 hp4
     rw [←HTK.out]at hS''
     refine⟨S'',hid (OwL.set hS'' (by omega)),by rw [heap_setCell_same w4 (w.heap.size+1+1) 2 _ _ _ hX4];rfl,TurnsAt.trans ?_ (turns_set _ _ _ _ rfl)⟩
     refine turns_grown' (turns_al (HT.out.trans (below_turns ((Below.refl wr.heap.size wr).drew.trans hbm))) _) hg4 (fun g hg=>?_)
     have h1:=(hgB g hg).1
     have h2:=HSZ.out
     omega)
    clear hrow4 hg4 hp4 hX4 f4 e4 hbm hrow hRRl hgB HF
    go_wp2
    go_roundw
    case rel=>
     obtain⟨S'',h1,h2,h3⟩:=HR.out
     exact⟨k+1,_,S'',by omega,by go_num,h1,h2,h3⟩
    case measure=>simp [intOf];omega
  ·have hkn:k=n:=by omega
   have hr2:wr.heap[w.heap.size+1]? =some (.cells #[.int .i64 0,.string ⟨#[]⟩,.slice none 0 0] 92 (0,0)):=(HT.out.block _ (by omega) (by omega)).trans hq2
   have g0:wr.cell? ⟨w.heap.size+1,0,none⟩=some (.int .i64 0):=by rw [cell_of_row _ (w.heap.size+1) 0 _ _ _ hr2];rfl
   have g1:wr.cell? ⟨w.heap.size+1,1,none⟩=some (.string ⟨#[]⟩):=by rw [cell_of_row _ (w.heap.size+1) 1 _ _ _ hr2];rfl
   have g2:wr.cell? ⟨w.heap.size+1,2,none⟩=some (.slice none 0 0):=by rw [cell_of_row _ (w.heap.size+1) 2 _ _ _ hr2];rfl
   have i0:wr.frozen? ⟨w.heap.size+1,0,none⟩=false:=by simp [World.frozen?,hr2]
   have i1:wr.frozen? ⟨w.heap.size+1,1,none⟩=false:=by simp [World.frozen?,hr2]
   have i2:wr.frozen? ⟨w.heap.size+1,2,none⟩=false:=by simp [World.frozen?,hr2]
   have hll:l.take k=l:=List.take_of_length_le (by have:=HN.out;omega)
   rw [hll]at HO
   obtain⟨A',c',rfl⟩:=(HO.out.rd).form
   have HLL:Hid (∀x0 x1 x2,TwOut (d+1) (.mk ⟨op,text⟩ l) w (.returned (.agg #[.int .i64 op,.string text,.slice A' l.length c'])) (((wr.setCell ⟨w.heap.size+1,0,none⟩ x0).setCell ⟨w.heap.size+1,1,none⟩ x1).setCell ⟨w.heap.size+1,2,none⟩ x2)):=hid fun x0 x1 x2=>
    ⟨A',c',S,rfl,owN_of ((((OwL.set HO.out (by omega)).set (by omega)).set (by omega)).mono (by omega)),below_set (below_set (below_set hbel (by omega)) (by omega)) (by omega)⟩
   clear hr2 hq2 hs3 hkn hll HC hbel hT
   go_wp2
   refine bodyPost_ret (v:=.agg #[.int .i64 op,.string text,.slice A' l.length c']) (by simp [results,Tryz.results138,go_sem,g0,g1,g2]) rfl ?_
   exact HLL.out _ _ _
theorem twin_0:TwinD 0:=by
 rintro⟨op,text,kv⟩ ⟨⟨xo,xt⟩,l⟩ w ⟨⟨h1,h2⟩,hl,A,cap,hkv,_⟩ hf
 obtain rfl:op=xo:=h1
 obtain rfl:text=xt:=h2
 obtain rfl:l=[]:=hl
 obtain rfl:kv=.slice A 0 cap:=hkv
 have HLL:Hid (∀W,Below w.heap.size w W→TwOut 0 (.mk ⟨op,text⟩ []) w (.returned (.agg #[.int .i64 op,.string text,.slice none 0 0])) W):=hid fun W hb=>
  ⟨none,0,fun _=>False,rfl,owN_leaf _ _ _ _ _,hb⟩
 clear hf
 have HB:Hid (Below w.heap.size w (((w.alloc (.cells #[.int .i64 op,.string text,.slice A 0 cap] 92)).alloc (.cells #[.int .i64 0,.string ⟨#[]⟩,.slice none 0 0] 92)).alloc (.cells #[.int .i64 op,.string text,.slice none 0 0] 92))):=hid (below_al (below_al (below_al (Below.refl w.heap.size w) _) _) _)
 go_enter Tryz.func138,Tryz.ntmps138
 go_wp2
 go_loopw [4] (fun i wr=>i=.int .i64 0∧wr=((w.alloc (.cells #[.int .i64 op,.string text,.slice A 0 cap] 92)).alloc (.cells #[.int .i64 0,.string ⟨#[]⟩,.slice none 0 0] 92)).alloc (.cells #[.int .i64 op,.string text,.slice none 0 0] 92)) (fun _ _=>0)
 case atStart=>exact⟨rfl,rfl⟩
 case round=>
  obtain⟨rfl,rfl⟩:=hrel
  go_wp2
  refine bodyPost_ret (v:=.agg #[.int .i64 op,.string text,.slice none 0 0]) (by simp [results,Tryz.results138,go_sem]) rfl ?_
  refine HLL.out _ ?_
  first|exact below_set (below_set (below_set HB.out (by simp)) (by simp)) (by simp)|exact below_al (below_al (below_al (Below.refl w.heap.size w) _) _) _
theorem twin_any:∀d,TwinD d
 | 0=>twin_0
 | d+1=>twin_of (twin_any d)
theorem stwin:STwinC:=fun d r t w h hf=>twin_any d r t w h hf
end
section
open Go.RowKit

def bE (b:Bool):List Value:=[.bool b]
theorem bE_len:∀b,(bE b).length=1:=fun _=>rfl
abbrev RowB (B:Nat)(w:World)(v:Value)(l:List Bool):Prop:=RowR bE 1 4 B w v l
theorem infoBool:(Tryz.prog.info? 4).map (fun i=>(i.zero,i.size,i.bytes))=some (some (.bool false),1,1):=by kernel_rfl
def hasL (l:List UInt8):List Bool:=(List.range 256).map fun x=>l.contains (UInt8.ofNat x)
theorem hasL_len (l:List UInt8):(hasL l).length=256:=by unfold hasL;rw [List.length_map,List.length_range]
theorem hasL_get (l:List UInt8){x:Nat}(h:x<(hasL l).length):(hasL l)[x]=l.contains (UInt8.ofNat x):=by simp [hasL]
theorem hasL_nil:hasL []=List.replicate 256 false:=by
 apply List.ext_getElem
 ·rw [hasL_len,List.length_replicate]
 ·intro i h1 h2;rw [List.getElem_replicate,hasL_get];rfl
theorem hasL_set (l:List UInt8)(x:Nat)(hx:x<256):(hasL l).set x true=hasL (l++ [UInt8.ofNat x]):=by
 apply List.ext_getElem
 ·simp [hasL]
 ·intro i h1 h2
  have hi:i<256:=by simpa [hasL]using h2
  rw [List.getElem_set,hasL_get]
  by_cases e:x=i
  ·subst e
   rw [if_pos rfl,hasL_get];simp
  ·rw [if_neg e,hasL_get]
   have hne:(UInt8.ofNat i==UInt8.ofNat x)=false:=by
    rw [beq_eq_false_iff_ne];intro e2
    have:=congrArg UInt8.toNat e2
    simp only [UInt8.toNat_ofNat']at this
    omega
   rw [List.contains_eq_any_beq,List.contains_eq_any_beq,List.any_append]
   simp [hne]
theorem betw_upto (a b:UInt8)(x:Nat)(h1:a.toNat≤x)(h2:x≤b.toNat):(betw a b).take (x+1-a.toNat)=(betw a b).take (x-a.toNat)++ [UInt8.ofNat x]:=by
 have hl2:(betw a b).length=b.toNat-a.toNat+1:=by simp [betw]
 have hl:x-a.toNat<(betw a b).length:=by omega
 rw [show x+1-a.toNat=(x-a.toNat)+1 by omega,List.take_succ_eq_append_getElem hl]
 congr 2
 simp only [betw,List.getElem_map,List.getElem_range]
 rw [show a.toNat+(x-a.toNat)=x by omega]
theorem betw_all (a b:UInt8)(h:a.toNat≤b.toNat):(betw a b).take (b.toNat+1-a.toNat)=betw a b:=List.take_of_length_le (by simp [betw];omega)
theorem betw_self (a:UInt8):betw a a=[a]:=by simp [betw]
theorem RowB.at {B g n cap x:Nat}{w:World}{l:List Bool}(h:RowB B w (.slice (some ⟨g,0,none⟩) n cap) l)(hx:x<l.length):w.cell? ⟨g,x,none⟩=some (.bool l[x]):=by
 have:=RowR.cell bE_len h hx (j:=0) (x:=.bool l[x]) rfl
 simpa using this
theorem RowB.put {B g n cap x:Nat}{w:World}{l:List Bool}(h:RowB B w (.slice (some ⟨g,0,none⟩) n cap) l)(hx:x<l.length)(u:Bool):RowB B (w.setCell ⟨g,x,none⟩ (.bool u)) (.slice (some ⟨g,0,none⟩) n cap) (l.set x u)∧w.grownBy (w.setCell ⟨g,x,none⟩ (.bool u)) (some g):=by
 have:=RowR.set1 bE_len h hx 0 (by omega) (.bool u) u rfl
 simpa using this
def lowL (l:List UInt8)(x:Nat):List UInt8:=((List.range x).map UInt8.ofNat).filter fun c=>l.contains c
theorem lowL_succ (l:List UInt8)(x:Nat):lowL l (x+1)=lowL l x++(if l.contains (UInt8.ofNat x)then [UInt8.ofNat x]else []):=by
 unfold lowL
 rw [List.range_succ,List.map_append,List.filter_append]
 simp only [List.map_cons,List.map_nil,List.filter_cons,List.filter_nil]
theorem lowL_len (l:List UInt8)(x:Nat):(lowL l x).length≤x:=by
 unfold lowL
 refine Nat.le_trans (List.length_filter_le _ _) ?_
 simp
theorem lowL_all (l:List UInt8):lowL l 256=clsL l:=rfl
def OkC (s:ByteArray)(i k:Nat)(cs:List UInt8):Prop:=i≤k∧k≤s.size∧(cs=[]↔k=i)∧
 spansL (s.data.toList.drop i).length (s.data.toList.drop i)=(cs++(spansL (s.data.toList.drop i).length (s.data.toList.drop k)).1,(spansL (s.data.toList.drop i).length (s.data.toList.drop k)).2)
theorem OkC.start (s:ByteArray)(i:Nat)(hi:i≤s.size):OkC s i i []:=⟨Nat.le_refl _,hi,by simp,by simp⟩
theorem spansL_none {m:Nat}{l:List UInt8}(h:spanL l=none):spansL m l=([],l):=by
 cases m with
 | zero=>rfl
 | succ m=>rw [spansL,h]
theorem spansL_some {m:Nat}{l b r:List UInt8}(hm:l.length≤m)(h:spanL l=some (b,r)):spansL m l=(b++(spansL m r).1,(spansL m r).2):=by
 have hl:=(spanL_suf h).2.1
 obtain⟨q,rfl⟩:∃q,m=q+1:=⟨m-1,by omega⟩
 rw [spansL_more (q+1) (q+1) r (by omega) (by omega),spansL,h]
 simp only
 rw [spansL_more q (q+1) r (by omega) (by omega)]
theorem OkC.step {s:ByteArray}{i k k':Nat}{cs b:List UInt8}(h:OkC s i k cs)(hk:k<k')(hk':k'≤s.size)(hs:spanL (s.data.toList.drop k)=some (b,s.data.toList.drop k')):OkC s i k' (cs++b):=by
 obtain⟨h1,h2,h3,h4⟩:=h
 have hb:=(spanL_suf hs).2.2
 refine⟨by omega,hk',⟨fun e=>absurd (List.append_eq_nil_iff.1 e).2 hb,fun e=>by omega⟩,?_⟩
 rw [h4,spansL_some (by simp;omega) hs]
 simp
theorem OkC.stop {s:ByteArray}{i k:Nat}{cs:List UInt8}(h:OkC s i k cs)(hs:spanL (s.data.toList.drop k)=none)(hne:∀h:k<s.size,s[k]≠93):classL (s.data.toList.drop i)=none:=by
 obtain⟨h1,h2,h3,h4⟩:=h
 rw [spansL_none hs]at h4
 unfold classL
 rw [h4]
 by_cases hk:k<s.size
 ·rw [data_drop s k hk]
  show(if s[k]=93∧_ then _ else _)=_
  rw [if_neg (fun e=>hne hk e.1)]
 ·rw [List.drop_eq_nil_of_le (by simp;omega)]
theorem OkC.close {s:ByteArray}{i k:Nat}{cs:List UInt8}(h:OkC s i k cs)(hk:k<s.size)(he:s[k]=93):classL (s.data.toList.drop i)=if k=i then none else some (charsP (clsL cs),s.data.toList.drop (k+1)):=by
 obtain⟨h1,h2,h3,h4⟩:=h
 have hd:=data_drop s k hk
 rw [he]at hd
 have hsp:spanL (s.data.toList.drop k)=none:=by rw [hd];rfl
 rw [spansL_none hsp,hd]at h4
 unfold classL
 rw [h4]
 simp only [List.append_nil]
 by_cases e:k=i
 ·rw [if_pos e,if_neg (fun x=>x.2 (h3.2 e))]
 ·rw [if_neg e,if_pos ⟨by first|rfl|trivial,fun x=>e (h3.1 x)⟩]
theorem sChar_q (c:UInt8)(b:Bool)(h:pcB c=b)(w:World):Calls Tryz.prog 181 #[.int .u8 c.toNat] w fun e w'=>e=.returned (.bool b)∧w'=w:=
 (sChar_any c w).mono fun _ _ ⟨he,hw⟩=>⟨by rw [he,h],hw.symm⟩
theorem sclass:SClassC:=by
 intro b s i w hP h30 hi
 have hbl:=hP.lt
 have hnb:¬w.heap.size=b:=by omega
 have hnb':¬b=w.heap.size:=by omega
 have hs:s.size≤maxLen:=by unfold maxLen;omega
 have hs9:s.size≤9223372036854775807:=by omega
 obtain⟨i0,hi0,hz0,hz1,hz2⟩:=info_parts infoBool
 have hP0:=hP.al (.cells #[.int .i64 0,.string ⟨#[]⟩,.slice none 0 0] 92)
 have HOK:=hid (OkC.start s i hi)
 obtain⟨O,hO⟩:∃O,O=classL (s.data.toList.drop i):=⟨_,rfl⟩
 rw [←hO]
 have HO:=hid hO
 have H30:=hid h30
 have hi30:(i:Int)≤30:=by omega
 have hi00:(0:Int)≤(i:Int):=by omega
 have hb2:i0.bytes*256≤281474976710656:=by rw [hz2];omega
 have hb3:256≤maxLen:=by unfold maxLen;omega
 clear hO hP h30 hz2
 go_enter Tryz.func162,Tryz.ntmps162
 go_wp2_with (at_make;refine wpList_make_full _ rfl _ _ 136 rfl (w.heap.size+1) 4 i0 (.bool false) 1 Tryz.underlying136 hi0 hz0 hz1 _ _ _ _ 256 rfl rfl rfl rfl hb2 hb3 (by simp) ?_;intro w1 hown1 hg1;have hP1:PS w1 b s i false:=(hg1.block b hP0.lt (by simp)).trans hP0;obtain⟨⟨c0,c1,c2⟩,z1,z2⟩:=hP1.cells)
 have hT1:RT b (w.alloc (.cells #[.int .i64 0,.string ⟨#[]⟩,.slice none 0 0] 92)) w1:=turns_grown' (TurnsAt.refl _ _) hg1 (by intro g h;cases h)
 have hrow1:RowB (w.heap.size+1) w1 (.slice (some ⟨w.heap.size+1,0,none⟩) 256 256) (hasL []):=by
  have:=hown1
  rw [show(madeCells (Value.bool false).cells (256*1)).toList=(List.replicate 256 false).flatMap bE from made_flat bE_len (by omega) _ false rfl 256,←hasL_nil]at this
  unfold RowB RowR
  rw [hasL_len]
  simpa using this
 clear hown1 hg1 c0 c1 c2 z1 z2 hP0
 go_loopg [5] (s.size+1-i) (fun G f wr=>∃(k:Nat) (cs:List UInt8),G=s.size+1-k∧Hid (OkC s i k cs)∧PS wr b s k false∧Hid (RowB (w.heap.size+1) wr (.slice (some ⟨w.heap.size+1,0,none⟩) 256 256) (hasL cs))∧RT b (w.alloc (.cells #[.int .i64 0,.string ⟨#[]⟩,.slice none 0 0] 92)) wr)
 case atStart=>exact⟨i,[],rfl,HOK,hP1,hid hrow1,hT1⟩
 case round=>
  clear hP1 hrow1 hT1 HOK
  obtain⟨k,cs,HG,HOK,hP,HROW,hT⟩:=hrel
  obtain⟨hik,hks,_⟩:=HOK.out
  have hgk:gk=s.size+1-k:=HG
  obtain⟨⟨c0,c1,c2⟩,z1,z2⟩:=hP.cells
  by_cases hlt:k<s.size
  ·by_cases h93:s[k]=93
   ·have HE:Hid (s[k]=93):=hid h93
    have hcl:=HOK.out.close hlt h93
    obtain⟨k1,hk1⟩:∃q,q=k+1:=⟨_,rfl⟩
    have HK1:=hid hk1
    have HKK:Hid (s.size-(s.data.toList.drop (k+1)).length=k1):=hid (by rw [hk1];simp;omega)
    have HRW0:Hid (∀W,RT b wr W→RowB (w.heap.size+1) W (.slice (some ⟨w.heap.size+1,0,none⟩) 256 256) (hasL cs)):=hid fun W h=>rowR_apart HROW.out h (fun q hq e=>by have:=Option.some.inj hq;simp at this;omega)
    by_cases hki:k=i
    ·
     rw [if_pos hki]at hcl
     have HN:Hid (O=none):=hid (by rw [HO.out];exact hcl)
     have hq:((k1:Int)==(i:Int)+1)=true:=by rw [beq_iff_eq];omega
     clear hcl h93 hk1 hki HROW HOK HO HG hgk hik
     go_wp2_with (go_at_call 120;((with_reducible refine(next_yes b s hs k 93 93 ch93 _ hP hlt HE.out).mono ?_);rintro e w3 ⟨rfl,hP3,hT3⟩;rw [←HK1.out]at hP3;have hT03:=hT.trans hT3;obtain⟨⟨p0,p1,p2⟩,g1,g2⟩:=hP3.cells))
     have hPW:=hP3.set2 true
     have HTW:Hid (RT b (w.alloc (.cells #[.int .i64 0,.string ⟨#[]⟩,.slice none 0 0] 92)) (w3.setCell ⟨b,2,none⟩ (.bool true))):=hid (hT03.trans (turns_set _ _ _ _ rfl))
     have HRW:=hid (HRW0.out _ (hT3.trans (turns_set w3 b 2 (.bool true) rfl)))
     have HSZ:Hid ((w3.setCell ⟨b,2,none⟩ (.bool true)).heap.size=w3.heap.size):=hid (by simp)
     generalize w3.setCell ⟨b,2,none⟩ (.bool true)=W at hPW HTW HRW HSZ ⊢
     clear p0 p1 p2 g1 g2 hP3 hT03 hT3 c0 c1 c2 z1 z2 hP hT HRW0
     have hP5:PS W b s k1 true:=hPW
     go_wp2
     go_loopw [8,9] (fun v x wr=>∃X:Nat,X≤256∧x=.int .i64 X∧Buf W.heap.size v (lowL cs X) W wr) (fun _ x _=>256-(intOf x).toNat)
     case atStart=>exact⟨0,by omega,rfl,by first|exact buf_none (Below.refl _ _)|(rw [←HSZ.out];exact buf_none (Below.refl _ _))⟩
     case round=>
      obtain⟨X,hX,rfl,hbuf⟩:=hrel
      by_cases hltX:X<256
      ·have hXz:(X:Int)<256:=by omega
       have hcell:=RowB.at (RowR.below HRW.out hbuf.below) (x:=X) (by rw [hasL_len];exact hltX)
       rw [hasL_get]at hcell
       have hcv:(((UInt8.ofNat X).toNat:Nat):Int)=X:=by simp only [UInt8.toNat_ofNat'];omega
       have HCV:=hid hcv
       have hlen:=lowL_len cs X
       have HLN:=hid hlen
       have HNX:=hid (lowL_succ cs X)
       clear hcv hlen
       cases hcon:cs.contains (UInt8.ofNat X)
       ·rw [hcon]at hcell HNX
        clear hcon
        go_wp2
        go_roundw
        case rel=>exact⟨X+1,by omega,by go_num,by rw [HNX.out];simpa using hbuf⟩
        case measure=>simp [intOf];omega
       ·rw [hcon]at hcell HNX
        clear hcon
        go_wp2_with (at_builtin;refine buf_append rfl _ _ rfl _ _ _ rfl _ _ _ hbuf rfl (UInt8.ofNat X) (HCV.out) (by have:=HLN.out;omega) ?_;clear hbuf;intro v1 w1 hbuf)
        go_roundw
        case rel=>exact⟨X+1,by omega,by go_num,by rw [HNX.out];simpa using hbuf⟩
        case measure=>simp [intOf];omega
      ·obtain rfl:X=256:=by omega
       have hcv:=buf_str hbuf
       rw [lowL_all]at hcv
       have hTe:RT b (w.alloc (.cells #[.int .i64 0,.string ⟨#[]⟩,.slice none 0 0] 92)) wr:=HTW.out.trans (below_turns hbuf.below)
       have hPe:PS wr b s k1 true:=hP5.below hbuf.below
       obtain⟨⟨b0,b1,b2⟩,⟨f0,f1,f2⟩,hz3⟩:=box3t hTe hbl
       clear hbuf hP5 hPW
       go_wp2
       refine bodyPost_ret (v:=.agg #[.int .i64 1,.string ⟨(clsL cs).toArray⟩,.slice none 0 0]) (by simp [results,Tryz.results162,go_sem,b0,b1,b2,hz3,hnb,hnb']) rfl ?_
       rw [HN.out]
       exact s_none hPe hTe hbl
     
    ·
     rw [if_neg hki]at hcl
     have HN:Hid (O=some (charsP (clsL cs),s.data.toList.drop (k+1))):=hid (by rw [HO.out];exact hcl)
     have hq:((k1:Int)==(i:Int)+1)=false:=by rw [beq_eq_false_iff_ne];omega
     clear hcl h93 hk1 hki HROW HOK HO HG hgk hik
     go_wp2_with (go_at_call 120;((with_reducible refine(next_yes b s hs k 93 93 ch93 _ hP hlt HE.out).mono ?_);rintro e w3 ⟨rfl,hP3,hT3⟩;rw [←HK1.out]at hP3;have hT03:=hT.trans hT3;obtain⟨⟨p0,p1,p2⟩,g1,g2⟩:=hP3.cells))
     have hPW:=hP3
     have HTW:Hid (RT b (w.alloc (.cells #[.int .i64 0,.string ⟨#[]⟩,.slice none 0 0] 92)) w3):=hid hT03
     have HRW:=hid (HRW0.out _ hT3)
     obtain⟨W,hW⟩:∃W,W=w3:=⟨_,rfl⟩
     have HSZ:Hid (W.heap.size=w3.heap.size):=hid (by rw [hW])
     rw [←hW]at hPW HTW HRW
     subst hW
     clear p0 p1 p2 g1 g2 hP3 hT03 hT3 c0 c1 c2 z1 z2 hP hT HRW0
     have hP5:PS W b s k1 false:=hPW
     go_wp2
     go_loopw [8,9] (fun v x wr=>∃X:Nat,X≤256∧x=.int .i64 X∧Buf W.heap.size v (lowL cs X) W wr) (fun _ x _=>256-(intOf x).toNat)
     case atStart=>exact⟨0,by omega,rfl,by first|exact buf_none (Below.refl _ _)|(rw [←HSZ.out];exact buf_none (Below.refl _ _))⟩
     case round=>
      obtain⟨X,hX,rfl,hbuf⟩:=hrel
      by_cases hltX:X<256
      ·have hXz:(X:Int)<256:=by omega
       have hcell:=RowB.at (RowR.below HRW.out hbuf.below) (x:=X) (by rw [hasL_len];exact hltX)
       rw [hasL_get]at hcell
       have hcv:(((UInt8.ofNat X).toNat:Nat):Int)=X:=by simp only [UInt8.toNat_ofNat'];omega
       have HCV:=hid hcv
       have hlen:=lowL_len cs X
       have HLN:=hid hlen
       have HNX:=hid (lowL_succ cs X)
       clear hcv hlen
       cases hcon:cs.contains (UInt8.ofNat X)
       ·rw [hcon]at hcell HNX
        clear hcon
        go_wp2
        go_roundw
        case rel=>exact⟨X+1,by omega,by go_num,by rw [HNX.out];simpa using hbuf⟩
        case measure=>simp [intOf];omega
       ·rw [hcon]at hcell HNX
        clear hcon
        go_wp2_with (at_builtin;refine buf_append rfl _ _ rfl _ _ _ rfl _ _ _ hbuf rfl (UInt8.ofNat X) (HCV.out) (by have:=HLN.out;omega) ?_;clear hbuf;intro v1 w1 hbuf)
        go_roundw
        case rel=>exact⟨X+1,by omega,by go_num,by rw [HNX.out];simpa using hbuf⟩
        case measure=>simp [intOf];omega
      ·obtain rfl:X=256:=by omega
       have hcv:=buf_str hbuf
       rw [lowL_all]at hcv
       have hTe:RT b (w.alloc (.cells #[.int .i64 0,.string ⟨#[]⟩,.slice none 0 0] 92)) wr:=HTW.out.trans (below_turns hbuf.below)
       have hPe:PS wr b s k1 false:=hP5.below hbuf.below
       obtain⟨⟨b0,b1,b2⟩,⟨f0,f1,f2⟩,hz3⟩:=box3t hTe hbl
       clear hbuf hP5 hPW
       go_wp2
       refine bodyPost_ret (v:=.agg #[.int .i64 1,.string ⟨(clsL cs).toArray⟩,.slice none 0 0]) (by simp [results,Tryz.results162,go_sem,b0,b1,b2,hz3,hnb,hnb']) rfl ?_
       rw [HN.out]
       exact s_some (p:=charsP (clsL cs)) (d:=0) (owN_leaf _ _ _ _ _) hPe HKK.out hTe hbl (Nat.le_refl _)
     
   ·have n93:NoNext s k false 93:=.inr fun _=>h93
    obtain⟨c,hc⟩:∃c,c=s[k]:=⟨_,rfl⟩
    have hd:s.data.toList.drop k=c::s.data.toList.drop (k+1):=by rw [data_drop s k hlt,hc]
    have hge1:decide (s.size≤k)=false:=by simp;omega
    have hge2:¬(s.size:Int)≤(k:Int):=by omega
    have hltz:(k:Int)<(s.size:Int):=by omega
    cases hpc:pcB c
    ·
     have HN:Hid (O=none):=hid (by rw [HO.out];exact HOK.out.stop (by rw [hd];unfold spanL;simp [hpc]) (fun _=>h93))
     have HPC:Hid (pcB s[k]=false):=hid (by rw [←hc];exact hpc)
     clear hc hd hpc h93 HROW HOK HO
     go_wp2_with (go_at_call 120;((with_reducible refine(next_no b s hs k false 93 93 ch93 _ hP n93).mono ?_);rintro e w3 ⟨rfl,hP3,hT3⟩;have hT03:=hT.trans hT3;obtain⟨⟨b0,b1,b2⟩,⟨f0,f1,f2⟩,hz3⟩:=box3t hT03 hbl;obtain⟨⟨p0,p1,p2⟩,g1,g2⟩:=hP3.cells))
     go_quiet ((go_at_call 181;exact Calls.quiet_of_same (sChar_q _ _ HPC.out _)))
     go_wp2
     refine bodyPost_ret (v:=.agg #[.int .i64 0,.string ⟨#[]⟩,.slice none 0 0]) (by simp [results,Tryz.results162,go_sem,b0,b1,b2,hz3,hnb,hnb']) rfl ?_
     rw [HN.out]
     exact s_none ((hP3.drewN _).set2 true) ((hT03.trans (turns_drewN _ _)).trans (turns_set _ _ _ _ rfl)) hbl
    ·have hsk:spanL (s.data.toList.drop k)=spanL (c::s.data.toList.drop (k+1)):=by rw [hd]
     have HPC:Hid (pcB s[k]=true):=hid (by rw [←hc];exact hpc)
     have hneq:∀h:k<s.size,s[k]≠93:=fun _=>h93
     have hstop:=fun h=>(HO.out).trans (HOK.out.stop h hneq)
     have HSTOP:=hid hstop
     have hP3x:∀w',RT b wr w'→RT b (w.alloc (.cells #[.int .i64 0,.string ⟨#[]⟩,.slice none 0 0] 92)) w':=fun w' h=>hT.trans h
     have HTR:=hid hP3x
     clear hstop hP3x HO hneq
     go_wp2_with (go_at_call 120;((with_reducible refine(next_no b s hs k false 93 93 ch93 _ hP n93).mono ?_);rintro e w3 ⟨rfl,hP3,hT3⟩;obtain⟨⟨p0,p1,p2⟩,g1,g2⟩:=hP3.cells))
     go_quiet ((go_at_call 181;exact Calls.quiet_of_same (sChar_q _ _ HPC.out _)))
     have hP4:=hP3.drewN nq
     have hT4:RT b wr (w3.drewN nq):=hT3.trans (turns_drewN w3 nq)
     generalize w3.drewN nq=w4 at hP4 hT4 ⊢
     clear p0 p1 p2 g1 g2 hP3 hT3 c0 c1 c2 z1 z2 nq
     obtain⟨⟨p0,p1,p2⟩,g1,g2⟩:=hP4.cells
     go_wp2
     go_quiet (fail)
     have hP5:=hP4.drewN nq
     have hT5:RT b wr (w4.drewN nq):=hT4.trans (turns_drewN w4 nq)
     generalize w4.drewN nq=w5 at hP5 hT5 ⊢
     clear p0 p1 p2 g1 g2 hP4 hT4 nq
     obtain⟨⟨p0,p1,p2⟩,g1,g2⟩:=hP5.cells
     obtain⟨k1,hk1⟩:∃q,q=k+1:=⟨_,rfl⟩
     have hP6:PS (w5.setCell ⟨b,1,none⟩ (.int .i64 ((k:Int)+1))) b s k1 false:=by rw [hk1];exact hP5.set1 (k+1)
     have hT6:RT b wr (w5.setCell ⟨b,1,none⟩ (.int .i64 ((k:Int)+1))):=hT5.trans (turns_set _ _ _ _ rfl)
     by_cases h126:∃h:k1<s.size,s[k1]=126
     ·obtain⟨hl1,he1⟩:=h126
      have HE1:=hid he1
      obtain⟨k2,hk2⟩:∃q,q=k1+1:=⟨_,rfl⟩
      have hd1:s.data.toList.drop (k+1)=126::s.data.toList.drop k2:=by rw [←hk1,data_drop s k1 hl1,he1,hk2]
      have HK2:=hid hk2
      rw [hd1]at hsk
      by_cases hl2:k2<s.size
      ·obtain⟨e,he⟩:∃e,e=s[k2]:=⟨_,rfl⟩
       have hd2:s.data.toList.drop k2=e::s.data.toList.drop (k2+1):=by rw [data_drop s k2 hl2,he]
       rw [hd2]at hsk
       have hge3:decide (s.size≤k2)=false:=by simp;omega
       have hge4:¬(s.size:Int)≤(k2:Int):=by omega
       have hltz2:(k2:Int)<(s.size:Int):=by omega
       cases hpe:pcB e
       ·
        have HN:Hid (O=none):=hid (HSTOP.out (by rw [hsk];simp [spanL,hpc,hpe]))
        have HPD:Hid (pcB s[k2]=false):=hid (by rw [←he];exact hpe)
        clear hsk hd1 hd2 hd he hpe hc hk1 hk2 he1 HSTOP HOK HROW h93 HG hgk
        go_wp2_with (go_at_call 120;((with_reducible refine(next_yes b s hs k1 126 126 ch126 _ hP6 hl1 HE1.out).mono ?_);rintro e w7 ⟨rfl,hP7,hT7⟩;have hP8:PS w7 b s k2 false:=by rw [HK2.out];exact hP7))
        have hT08:RT b (w.alloc (.cells #[.int .i64 0,.string ⟨#[]⟩,.slice none 0 0] 92)) w7:=HTR.out _ (hT6.trans hT7)
        obtain⟨⟨b0,b1,b2⟩,⟨f0,f1,f2⟩,hz3⟩:=box3t hT08 hbl
        clear p0 p1 p2 g1 g2
        obtain⟨⟨p0,p1,p2⟩,g1,g2⟩:=hP8.cells
        go_quiet ((go_at_call 181;exact Calls.quiet_of_same (sChar_q _ _ HPD.out _)))
        go_wp2
        refine bodyPost_ret (v:=.agg #[.int .i64 0,.string ⟨#[]⟩,.slice none 0 0]) (by simp [results,Tryz.results162,go_sem,b0,b1,b2,hz3,hnb,hnb']) rfl ?_
        rw [HN.out]
        exact s_none ((hP8.drewN _).set2 true) ((hT08.trans (turns_drewN _ _)).trans (turns_set _ _ _ _ rfl)) hbl
       ·have HPD:Hid (pcB s[k2]=true):=hid (by rw [←he];exact hpe)
        by_cases hce:c.toNat≤e.toNat
        ·
         have hq5:decide ((s[k2].toNat:Int)<(s[k].toNat:Int))=false:=by rw [←he,←hc];simp;omega
         have hq6:¬(s[k2].toNat:Int)<(s[k].toNat:Int):=by rw [←he,←hc];omega
         have HSPK:Hid (spanL (s.data.toList.drop k)=some (betw c e,s.data.toList.drop (k2+1))):=hid (by rw [hsk];simp only [spanL,hpc,if_true];rw [if_pos ⟨hpe,hce⟩])
         have HLH0:Hid (c.toNat≤e.toNat):=hid hce
         have HK1:=hid hk1
         have HC1:=hid hc
         have HC2:=hid he
         clear hsk hd1 hd2 hd he hpe hc hk1 hk2 he1 HSTOP h93 HG hce hpc
         go_wp2_with (go_at_call 120;((with_reducible refine(next_yes b s hs k1 126 126 ch126 _ hP6 hl1 HE1.out).mono ?_);rintro e w7 ⟨rfl,hP7,hT7⟩;have hP8:PS w7 b s k2 false:=by rw [HK2.out];exact hP7))
         have hT08:RT b (w.alloc (.cells #[.int .i64 0,.string ⟨#[]⟩,.slice none 0 0] 92)) w7:=HTR.out _ (hT6.trans hT7)
         obtain⟨⟨b0,b1,b2⟩,⟨f0,f1,f2⟩,hz3⟩:=box3t hT08 hbl
         clear p0 p1 p2 g1 g2
         obtain⟨⟨p0,p1,p2⟩,g1,g2⟩:=hP8.cells
         go_quiet ((go_at_call 181;exact Calls.quiet_of_same (sChar_q _ _ HPD.out _)))
         have hP9:=hP8.drewN nq
         have hT9:RT b wr (w7.drewN nq):=(hT6.trans hT7).trans (turns_drewN w7 nq)
         generalize w7.drewN nq=w9 at hP9 hT9 ⊢
         clear p0 p1 p2 g1 g2 hP8 hT08 hT7 hT6 nq b0 b1 b2 f0 f1 f2 hz3 hP7 hP6
         obtain⟨⟨p0,p1,p2⟩,g1,g2⟩:=hP9.cells
         go_wp2
         go_quiet (fail)
         have hPa:=hP9.drewN nq
         have hTa:RT b wr (w9.drewN nq):=hT9.trans (turns_drewN w9 nq)
         generalize w9.drewN nq=wa at hPa hTa ⊢
         clear p0 p1 p2 g1 g2 hP9 hT9 nq
         obtain⟨⟨p0,p1,p2⟩,g1,g2⟩:=hPa.cells
         obtain⟨kk,hkk0⟩:∃q,q=k2+1:=⟨_,rfl⟩
         have hkk:k<kk:=by have h1:=HK2.out;have h2:=HK1.out;omega
         have hkks:kk≤s.size:=by omega
         have HSP:Hid (spanL (s.data.toList.drop k)=some (betw s[k] s[k2],s.data.toList.drop kk)):=hid (by rw [hkk0,←HC1.out,←HC2.out];exact HSPK.out)
         have HLH:Hid (s[k].toNat≤s[k2].toNat):=hid (by rw [←HC1.out,←HC2.out];exact HLH0.out)
         obtain⟨W7,hW7⟩:∃W,W=wa.setCell ⟨b,1,none⟩ (.int .i64 ((k2:Int)+1)):=⟨_,rfl⟩
         have hP7:PS W7 b s kk false:=by rw [hW7,hkk0];exact hPa.set1 (k2+1)
         have hTw:RT b wr W7:=by rw [hW7];exact hTa.trans (turns_set _ _ _ _ rfl)
         have hT7:=HTR.out _ hTw
         have HW7:=hid hW7
         clear hPa hTa hkk0 hW7 hge1 hge2 hge3 hge4 hq5 hq6 n93 HPC HPD HTR
         have HRW7:Hid (RowB (w.heap.size+1) W7 (.slice (some ⟨w.heap.size+1,0,none⟩) 256 256) (hasL cs)):=hid (rowR_apart HROW.out hTw (fun q hq e=>by have:=Option.some.inj hq;simp at this;omega))
         have hlo:s[k].toNat<256:=s[k].toNat_lt
         have hhi:s[k2].toNat<256:=s[k2].toNat_lt
         have HOK2:=hid (HOK.out.step hkk hkks HSP.out)
         clear hTw HROW HSP
         go_wp2
         go_loopw [7] (fun x wr=>∃X:Nat,x=.int .i64 X∧s[k].toNat≤X∧X≤s[k2].toNat+1∧Hid (RowB (w.heap.size+1) wr (.slice (some ⟨w.heap.size+1,0,none⟩) 256 256) (hasL (cs++(betw s[k] s[k2]).take (X-s[k].toNat))))∧PS wr b s kk false∧RT b (w.alloc (.cells #[.int .i64 0,.string ⟨#[]⟩,.slice none 0 0] 92)) wr) (fun x _=>s[k2].toNat+1-(intOf x).toNat)
         case atStart=>first|(rw [←HW7.out];exact⟨s[k].toNat,rfl,Nat.le_refl _,by omega,hid (by rw [Nat.sub_self,List.take_zero,List.append_nil];exact HRW7.out),hP7,hT7⟩)|exact⟨s[k].toNat,rfl,Nat.le_refl _,by omega,hid (by rw [Nat.sub_self,List.take_zero,List.append_nil];exact HRW7.out),hP7,hT7⟩
         case round=>
          clear hP7 hT7 HRW7
          obtain⟨X,rfl,hX1,hX2,HRX,hPX,hTX⟩:=hrel
          by_cases hXl:X≤s[k2].toNat
          ·have hXz:(X:Int)≤(s[k2].toNat:Int):=by omega
           have hX256:(X:Int)<256:=by omega
           have hXn:X<256:=by omega
           have hXL:X<(hasL (cs++(betw s[k] s[k2]).take (X-s[k].toNat))).length:=by rw [hasL_len];omega
           obtain⟨vb,hcell⟩:∃vb,wr.cell? ⟨w.heap.size+1,X,none⟩=some (.bool vb):=⟨_,RowB.at HRX.out hXL⟩
           have hfz:=RowR.frozen HRX.out X
           have HPUT:=hid (RowB.put HRX.out hXL true)
           have HPX:=hid (hPX.setNew (c:=w.heap.size+1) (j:=X) (u:=.bool true) (by omega))
           have HTX:=hid (turns_new (b:=w.heap.size+1) (j:=X) (u:=.bool true) hTX (by simp))
           have HST:Hid ((hasL (cs++(betw s[k] s[k2]).take (X-s[k].toNat))).set X true=hasL (cs++(betw s[k] s[k2]).take (X+1-s[k].toNat))):=hid (by rw [hasL_set _ _ hXn,betw_upto s[k] s[k2] X hX1 hXl,List.append_assoc])
           clear HRX hPX hTX hXL
           go_wp2
           go_roundw
           case rel=>exact⟨X+1,by go_num,by omega,by omega,hid (by rw [←HST.out];exact HPUT.out.1),HPX.out,HTX.out⟩
           case measure=>simp [intOf];omega
          ·obtain rfl:X=s[k2].toNat+1:=by omega
           have hXz:¬((s[k2].toNat+1:Nat):Int)≤(s[k2].toNat:Int):=by omega
           have HRE:Hid (RowB (w.heap.size+1) wr (.slice (some ⟨w.heap.size+1,0,none⟩) 256 256) (hasL (cs++betw s[k] s[k2]))):=hid (by have:=HRX.out;rwa [betw_all s[k] s[k2] HLH.out]at this)
           clear HRX
           go_wp2
           go_roundg (s.size+1-kk)
           case rel=>exact⟨kk,cs++betw s[k] s[k2],rfl,HOK2,hPX,HRE,hTX⟩
           case measure=>omega
        ·
         have hq5:decide ((s[k2].toNat:Int)<(s[k].toNat:Int))=true:=by rw [←he,←hc];simp;omega
         have hq6:(s[k2].toNat:Int)<(s[k].toNat:Int):=by rw [←he,←hc];omega
         have HN:Hid (O=none):=hid (HSTOP.out (by rw [hsk];simp only [spanL,hpc,if_true];rw [if_neg (fun x=>hce x.2)]))
         clear hsk hd1 hd2 hd he hpe hc hk1 hk2 he1 HSTOP HOK HROW h93 HG hgk hce
         go_wp2_with (go_at_call 120;((with_reducible refine(next_yes b s hs k1 126 126 ch126 _ hP6 hl1 HE1.out).mono ?_);rintro e w7 ⟨rfl,hP7,hT7⟩;have hP8:PS w7 b s k2 false:=by rw [HK2.out];exact hP7))
         have hT08:RT b (w.alloc (.cells #[.int .i64 0,.string ⟨#[]⟩,.slice none 0 0] 92)) w7:=HTR.out _ (hT6.trans hT7)
         obtain⟨⟨b0,b1,b2⟩,⟨f0,f1,f2⟩,hz3⟩:=box3t hT08 hbl
         clear p0 p1 p2 g1 g2
         obtain⟨⟨p0,p1,p2⟩,g1,g2⟩:=hP8.cells
         go_quiet ((go_at_call 181;exact Calls.quiet_of_same (sChar_q _ _ HPD.out _)))
         go_wp2
         refine bodyPost_ret (v:=.agg #[.int .i64 0,.string ⟨#[]⟩,.slice none 0 0]) (by simp [results,Tryz.results162,go_sem,b0,b1,b2,hz3,hnb,hnb']) rfl ?_
         rw [HN.out]
         exact s_none ((hP8.drewN _).set2 true) ((hT08.trans (turns_drewN _ _)).trans (turns_set _ _ _ _ rfl)) hbl
      ·
       have HN:Hid (O=none):=hid (HSTOP.out (by rw [hsk,List.drop_eq_nil_of_le (show s.data.toList.length≤k2 by simp;omega)];simp [spanL,hpc]))
       have hge3:decide (s.size≤k2)=true:=by simp;omega
       have hge4:(s.size:Int)≤(k2:Int):=by omega
       clear hsk hd1 hd hc hk1 hk2 he1 HSTOP HOK HROW h93 HG hgk
       go_wp2_with (go_at_call 120;((with_reducible refine(next_yes b s hs k1 126 126 ch126 _ hP6 hl1 HE1.out).mono ?_);rintro e w7 ⟨rfl,hP7,hT7⟩;have hP8:PS w7 b s k2 false:=by rw [HK2.out];exact hP7))
       have hT08:RT b (w.alloc (.cells #[.int .i64 0,.string ⟨#[]⟩,.slice none 0 0] 92)) w7:=HTR.out _ (hT6.trans hT7)
       obtain⟨⟨b0,b1,b2⟩,⟨f0,f1,f2⟩,hz3⟩:=box3t hT08 hbl
       clear p0 p1 p2 g1 g2
       obtain⟨⟨p0,p1,p2⟩,g1,g2⟩:=hP8.cells
       go_quiet (fail)
       go_wp2
       refine bodyPost_ret (v:=.agg #[.int .i64 0,.string ⟨#[]⟩,.slice none 0 0]) (by simp [results,Tryz.results162,go_sem,b0,b1,b2,hz3,hnb,hnb']) rfl ?_
       rw [HN.out]
       exact s_none ((hP8.drewN _).set2 true) ((hT08.trans (turns_drewN _ _)).trans (turns_set _ _ _ _ rfl)) hbl
     ·
      have n126:NoNext s k1 false 126:=.inr fun h e=>h126 ⟨h,e⟩
      obtain⟨kk,hkk0⟩:∃q,q=k1:=⟨_,rfl⟩
      have hkk:k<kk:=by omega
      have hkks:kk≤s.size:=by omega
      have HSP:Hid (spanL (s.data.toList.drop k)=some (betw s[k] s[k],s.data.toList.drop kk)):=hid (by
       rw [hsk,hkk0,betw_self,←hc,hk1]
       by_cases hl1:k+1<s.size
       ·have hne:s[k+1]≠126:=fun e=>h126 ⟨by omega,by simpa [hk1]using e⟩
        rw [data_drop s (k+1) hl1]
        simp [spanL,hpc,hne]
       ·rw [List.drop_eq_nil_of_le (show s.data.toList.length≤k+1 by simp;omega)]
        simp [spanL,hpc])
      have HLH:Hid (s[k].toNat≤s[k].toNat):=hid (Nat.le_refl _)
      have HKK0:=hid hkk0
      clear hsk hd hc hk1 HSTOP h93 HG hpc hkk0 h126 n93 HPC hge1 hge2
      have hlo0:s[k].toNat<256:=s[k].toNat_lt
      have hlo1:(s[k].toNat:Int)<256:=by omega
      go_wp2_with (go_at_call 120;((with_reducible refine(next_no b s hs k1 false 126 126 ch126 _ hP6 n126).mono ?_);rintro e W7 ⟨rfl,hP8,hT7a⟩;have hP7:PS W7 b s kk false:=(by rw [HKK0.out];exact hP8);have hTw:RT b wr W7:=hT6.trans hT7a;have hT7:=HTR.out _ hTw;clear hP8 hP6 hT6 hT7a HTR p0 p1 p2 g1 g2 hP5 hT5))
      have HRW7:Hid (RowB (w.heap.size+1) W7 (.slice (some ⟨w.heap.size+1,0,none⟩) 256 256) (hasL cs)):=hid (rowR_apart HROW.out hTw (fun q hq e=>by have:=Option.some.inj hq;simp at this;omega))
      have hlo:s[k].toNat<256:=s[k].toNat_lt
      have HOK2:=hid (HOK.out.step hkk hkks HSP.out)
      clear hTw HROW HSP
      go_loopw [7] (fun x wr=>∃X:Nat,x=.int .i64 X∧s[k].toNat≤X∧X≤s[k].toNat+1∧Hid (RowB (w.heap.size+1) wr (.slice (some ⟨w.heap.size+1,0,none⟩) 256 256) (hasL (cs++(betw s[k] s[k]).take (X-s[k].toNat))))∧PS wr b s kk false∧RT b (w.alloc (.cells #[.int .i64 0,.string ⟨#[]⟩,.slice none 0 0] 92)) wr) (fun x _=>s[k].toNat+1-(intOf x).toNat)
      case atStart=>exact⟨s[k].toNat,rfl,Nat.le_refl _,by omega,hid (by rw [Nat.sub_self,List.take_zero,List.append_nil];exact HRW7.out),hP7,hT7⟩
      case round=>
       clear hP7 hT7 HRW7
       obtain⟨X,rfl,hX1,hX2,HRX,hPX,hTX⟩:=hrel
       by_cases hXl:X≤s[k].toNat
       ·have hXz:(X:Int)≤(s[k].toNat:Int):=by omega
        have hX256:(X:Int)<256:=by omega
        have hXn:X<256:=by omega
        have hXL:X<(hasL (cs++(betw s[k] s[k]).take (X-s[k].toNat))).length:=by rw [hasL_len];omega
        obtain⟨vb,hcell⟩:∃vb,wr.cell? ⟨w.heap.size+1,X,none⟩=some (.bool vb):=⟨_,RowB.at HRX.out hXL⟩
        have hfz:=RowR.frozen HRX.out X
        have HPUT:=hid (RowB.put HRX.out hXL true)
        have HPX:=hid (hPX.setNew (c:=w.heap.size+1) (j:=X) (u:=.bool true) (by omega))
        have HTX:=hid (turns_new (b:=w.heap.size+1) (j:=X) (u:=.bool true) hTX (by simp))
        have HST:Hid ((hasL (cs++(betw s[k] s[k]).take (X-s[k].toNat))).set X true=hasL (cs++(betw s[k] s[k]).take (X+1-s[k].toNat))):=hid (by rw [hasL_set _ _ hXn,betw_upto s[k] s[k] X hX1 hXl,List.append_assoc])
        clear HRX hPX hTX hXL
        go_wp2
        go_roundw
        case rel=>exact⟨X+1,by go_num,by omega,by omega,hid (by rw [←HST.out];exact HPUT.out.1),HPX.out,HTX.out⟩
        case measure=>simp [intOf];omega
       ·obtain rfl:X=s[k].toNat+1:=by omega
        have hXz:¬((s[k].toNat+1:Nat):Int)≤(s[k].toNat:Int):=by omega
        have HRE:Hid (RowB (w.heap.size+1) wr (.slice (some ⟨w.heap.size+1,0,none⟩) 256 256) (hasL (cs++betw s[k] s[k]))):=hid (by have:=HRX.out;rwa [betw_all s[k] s[k] HLH.out]at this)
        clear HRX
        go_wp2
        go_roundg (s.size+1-kk)
        case rel=>exact⟨kk,cs++betw s[k] s[k],rfl,HOK2,hPX,HRE,hTX⟩
        case measure=>omega
  ·
   have HN:Hid (O=none):=hid (by rw [HO.out];exact HOK.out.stop (by rw [List.drop_eq_nil_of_le (by simp;omega)];rfl) (fun h=>absurd h hlt))
   have n93:NoNext s k false 93:=no_end hlt
   have hge1:decide (s.size≤k)=true:=by simp;omega
   have hge2:(s.size:Int)≤(k:Int):=by omega
   clear HROW HOK HO HG hgk
   go_wp2_with (go_at_call 120;((with_reducible refine(next_no b s hs k false 93 93 ch93 _ hP n93).mono ?_);rintro e w3 ⟨rfl,hP3,hT3⟩;have hT03:=hT.trans hT3;obtain⟨⟨b0,b1,b2⟩,⟨f0,f1,f2⟩,hz3⟩:=box3t hT03 hbl;obtain⟨⟨p0,p1,p2⟩,g1,g2⟩:=hP3.cells))
   go_quiet (fail)
   go_wp2
   refine bodyPost_ret (v:=.agg #[.int .i64 0,.string ⟨#[]⟩,.slice none 0 0]) (by simp [results,Tryz.results162,go_sem,b0,b1,b2,hz3,hnb,hnb']) rfl ?_
   rw [HN.out]
   exact s_none ((hP3.drewN _).set2 true) ((hT03.trans (turns_drewN _ _)).trans (turns_set _ _ _ _ rfl)) hbl
end
section
open Go.RowKit Go.Sort

theorem cE_map (l:List UInt8):l.flatMap cE=l.map u8v:=by induction l with|nil=>rfl|cons c r ih=>rw [List.flatMap_cons,ih];rfl
theorem buf_cells {B:Nat}{v:Value}{l:List UInt8}{W w:World}(h:Buf B v l W w)(hl:l≠[]):∃g c,v=.slice (some ⟨g,0,none⟩) l.length c∧∀j u,(l.map u8v)[j]? =some u→w.cell? ((⟨g,0,none⟩:Addr).add j)=some u:=by
 rcases h.1.2 with ⟨rfl,h0⟩|⟨g,cap,cur,fz,rfl,hrest⟩
 ·exact absurd (List.length_eq_zero_iff.1 h0) hl
 ·exact⟨g,cap,rfl,fun j u hu=>h.1.cells (g:=g) rfl j u hu⟩
theorem wpList_row_bytes {ops:Array Oper}{rest:List Oper}{o:Oper}{a:Act}{Q:Exit→Act→World→Prop}{w:World}(hgd:o.guard=none)(s x:Operand)
  (ho:o.op=.call { callee:=.builtin .append,args:=#[s,x],argTypes:=#[22,22] })
  (B g n c:Nat) (L:List UInt8) (hs:a.eval s=.slice (some ⟨g,0,none⟩) n c) (hrow:RowC B w (.slice (some ⟨g,0,none⟩) n c) L)
  (g2 n2 c2:Nat) (L2:List UInt8) (hx:a.eval x=.slice (some ⟨g2,0,none⟩) n2 c2) (hl2:n2=L2.length) (hnews:∀j u,(L2.map u8v)[j]? =some u→w.cell? ((⟨g2,0,none⟩:Addr).add j)=some u)
  (hlen:n+n2≤549755813888) (hbase:B≤w.heap.size) (q:Nat) (hq:q=n+n2)
  (h:∀g' c'' w',RowC B w' (.slice (some ⟨g',0,none⟩) q c'') (L++L2)→w.grownBy w' (some g)→wpList Tryz.prog ops Q rest (a.put o.dst (.slice (some ⟨g',0,none⟩) q c'')) w'):
  wpList Tryz.prog ops Q (o::rest) a w:=by
 obtain⟨i0,hi,hz0,hz1,hz2⟩:=info_parts infoU8
 have hnL:=RowR.cap' hrow
 subst hq
 subst hnL
 subst hl2
 refine wpList_append_own _ hgd s x 22 ho B 5 i0 (.int .u8 0) 1 1 Tryz.underlying22 hi hz0 hz1 hz2 rfl (by decide) _ L.length (L.flatMap cE) hs hrow ⟨g2,0,none⟩ L2.length c2 (L2.map u8v) hx (by simp) hnews (fun u hu=>by obtain⟨y,_,hy⟩:=List.mem_map.1 hu;rw [←hy];rfl) (by unfold maxLen;omega) (by omega) hbase ?_
 intro v' w' h2 h3 h4
 rcases h2.2 with ⟨h5,_⟩|⟨g',cap',cur,h5,_⟩
 ·exact absurd (h4.1 h5).1 (by simp)
 ·subst h5
  refine h g' cap' w' ?_ h3
  unfold RowC RowR
  rw [List.length_append,List.flatMap_append,cE_map L2]
  exact h2
theorem betw_le (a b:UInt8):(betw a b).length≤256:=by unfold betw;rw [List.length_map,List.length_range];have:=b.toNat_lt;omega
theorem spanL_len {l b r:List UInt8}(h:spanL l=some (b,r)):b.length≤256:=by
 unfold spanL at h
 split at h
 ·cases h
 ·split at h
  ·split at h
   ·cases h;simp
   ·split at h
    ·split at h
     ·cases h
     ·split at h
      ·cases h;exact betw_le _ _
      ·cases h
    ·cases h;simp
  ·cases h
theorem OkC.empty {s:ByteArray}{i k:Nat}{cs:List UInt8}(h:OkC s i k cs)(hs:spanL (s.data.toList.drop k)=none)(hn:cs=[]):classL (s.data.toList.drop i)=none:=by
 obtain⟨h1,h2,h3,h4⟩:=h
 rw [spansL_none hs,hn]at h4
 unfold classL
 rw [h4]
 split
 ·rfl
 ·exact if_neg (fun x=>x.2 rfl)
theorem class_any:ClassC:=by
 intro s w h0 h30
 have hs9:s.size≤9223372036854775807:=by omega
 have HOK:=hid (OkC.start s 1 h0)
 obtain⟨O,hO⟩:∃O,O=classL (s.data.toList.drop 1):=⟨_,rfl⟩
 rw [←hO]
 have HO:=hid hO
 have H30:=hid h30
 have hrow0:RowC (w.heap.size+1) ((w.alloc (.cells #[.int .i64 0,.string ⟨#[]⟩,.slice none 0 0] 92)).alloc (.cells #[] 5)) (.slice (some ⟨w.heap.size+1,0,none⟩) 0 0) []:=by
  have:=rowR_empty (enc:=cE) (z:=1) (E:=5) (B:=w.heap.size+1) (heap_alloc_new (w.alloc (.cells #[.int .i64 0,.string ⟨#[]⟩,.slice none 0 0] 92)) (.cells #[] 5)) (by simp)
  simpa using this
 have hb0:Below (w.alloc (.cells #[.int .i64 0,.string ⟨#[]⟩,.slice none 0 0] 92)).heap.size (w.alloc (.cells #[.int .i64 0,.string ⟨#[]⟩,.slice none 0 0] 92)) ((w.alloc (.cells #[.int .i64 0,.string ⟨#[]⟩,.slice none 0 0] 92)).alloc (.cells #[] 5)):=below_al (Below.refl _ _) _
 have HR0:=hid hrow0
 have HB0:=hid hb0
 clear hO h30 hrow0 hb0
 go_enter Tryz.func187,Tryz.ntmps187
 go_wp2
 go_loopg [4,5] (s.size+1) (fun G v4 v5 wr=>∃(k g c n:Nat) (cs:List UInt8),v4=.slice (some ⟨g,0,none⟩) n c∧v5=.int .i64 k∧s.size+1-k≤G∧k≤s.size∧n≤256*k∧Hid (n=cs.length)∧Hid (OkC s 1 k cs)∧Hid (RowC (w.heap.size+1) wr (.slice (some ⟨g,0,none⟩) n c) cs)∧Hid (Below (w.alloc (.cells #[.int .i64 0,.string ⟨#[]⟩,.slice none 0 0] 92)).heap.size (w.alloc (.cells #[.int .i64 0,.string ⟨#[]⟩,.slice none 0 0] 92)) wr))
 case atStart=>exact⟨1,w.heap.size+1,0,0,[],rfl,rfl,by omega,h0,by omega,hid rfl,HOK,HR0,HB0⟩
 case round=>
  clear HR0 HB0 HOK
  obtain⟨k,g,c,n,cs,rfl,rfl,hG,hks,hnk,HN,HOK,HR,HB⟩:=hrel
  have hC:=fun w=>iSpan_any (s.extract k s.size) (by rw [ext_size];have:=H30.out;omega) w
  rw [ext_drop,ext_size]at hC
  have hkl:(k:Int)≤(s.size:Int):=by omega
  have hk9:(k:Int)≤30:=by have:=H30.out;omega
  cases hsp:spanL (s.data.toList.drop k)with
  | some x =>
   obtain⟨b,r⟩:=x
   rw [hsp]at hC
   have hsuf:=spanL_suf hsp
   have hr:=hsuf.1.drop
   have hrl:=hsuf.2.1
   have hdl:(s.data.toList.drop k).length=s.size-k:=by simp
   rw [hdl]at hr hrl
   rw [List.drop_drop]at hr
   obtain⟨j,hj⟩:∃j,s.size-k-r.length=j:=⟨_,rfl⟩
   rw [hj]at hr
   have hj0:0<j:=by omega
   have hkj:k+j≤s.size:=by omega
   have HC:Hid (∀w,Calls Tryz.prog 193 #[.string (s.extract k s.size)] w fun e w'=>∃v,e=.returned (.tuple #[v,.int .i64 (j:Int)])∧Buf w.heap.size v b w w'):=hid (by rw [←hj];exact hC)
   have HOK2:=hid (HOK.out.step (k':=k+j) (by omega) hkj (by rw [hsp,hr]))
   have hq0:((j:Int)==0)=false:=by simp only [beq_eq_false_iff_ne,ne_eq];omega
   have hjb:(j:Int)≤30:=by have:=H30.out;omega
   have HBN:Hid (b≠[]):=hid hsuf.2.2
   have hbl:=spanL_len hsp
   obtain⟨m,hm⟩:∃m,m=b.length:=⟨_,rfl⟩
   have HM:=hid hm
   rw [←hm]at hbl
   have hn9:n≤7680:=by have:=H30.out;omega
   clear hC hsuf hr hrl hdl hj hsp hm
   go_wp2_with (first
    |(go_at_call 193;((refine(HC.out _).mono ?_);rintro e w1 ⟨v1,rfl,hbuf⟩;obtain⟨g2,c2,hv,hcells⟩:=buf_cells hbuf HBN.out;rw [←HM.out]at hv;subst hv;have hbw:=hbuf.below;have hr1:=RowR.below HR.out hbw;have HR1:=hid hr1;have HBW:=hid hbw;have HCELL:=hid hcells;clear hr1 hbw hcells hbuf))
    |(at_builtin;refine wpList_row_bytes rfl _ _ rfl (w.heap.size+1) g n c cs rfl HR1.out g2 m c2 b rfl HM.out HCELL.out (by omega) (by have h1:=HB.out.size;have h2:=HBW.out.size;simp at h1;omega) (n+m) rfl ?_;intro g' c' w2 hrow2 hg2))
   go_roundg (s.size+1-(k+j))
   case measure=>omega
   case rel=>
    refine⟨k+j,g',c',n+m,cs++b,rfl,by go_num,Nat.le_refl _,hkj,by omega,hid (by rw [List.length_append,←HN.out,←HM.out]),HOK2,hid hrow2,hid ?_⟩
    have h1:=below_step HB.out HBW.out
    exact h1.grown hg2 h1.size (fun q hq=>by cases hq;have:=(HR.out.lt (k:=g) rfl).1;simpa using this)
  | none =>
   rw [hsp]at hC
   have HC:Hid (∀w,Calls Tryz.prog 193 #[.string (s.extract k s.size)] w fun e w'=>∃v,e=.returned (.tuple #[v,.int .i64 0])∧Buf w.heap.size v [] w w'):=hid hC
   have HSP:=hid hsp
   clear hC hsp
   by_cases hn0:n=0
   ·have hq1:((n:Int)==0)=true:=by rw [hn0];rfl
    have HNO:Hid (O=none):=hid (by rw [HO.out];exact HOK.out.empty HSP.out (List.length_eq_zero_iff.1 (by rw [←HN.out];exact hn0)))
    clear hn0
    go_wp2_with (go_at_call 193;((refine(HC.out _).mono ?_);rintro e w1 ⟨v1,rfl,hbuf⟩;have hbel1:=below_step HB.out hbuf.below;obtain⟨⟨b0,b1,b2⟩,⟨f0,f1,f2⟩,hz⟩:=box3p hbel1;clear hbuf))
    refine bodyPost_ret (v:=.tuple #[.agg #[.int .i64 0,.string ⟨#[]⟩,.slice none 0 0],.int .i64 0]) (by simp [results,Tryz.results187,go_sem,b0,b1,b2,hz]) rfl ?_
    rw [HNO.out]
    exact tree_none hbel1
   ·have hq1:((n:Int)==0)=false:=by rw [beq_eq_false_iff_ne];omega
    by_cases hke:k=s.size
    ·have hq2:((k:Int)==(s.size:Int))=true:=by rw [hke];simp
     have hq3:(k==s.size)=true:=by rw [hke];simp
     have HNO:Hid (O=none):=hid (by rw [HO.out];exact HOK.out.stop HSP.out (fun h=>absurd h (by omega)))
     clear hke
     go_wp2_with (go_at_call 193;((refine(HC.out _).mono ?_);rintro e w1 ⟨v1,rfl,hbuf⟩;have hbel1:=below_step HB.out hbuf.below;obtain⟨⟨b0,b1,b2⟩,⟨f0,f1,f2⟩,hz⟩:=box3p hbel1;clear hbuf))
     refine bodyPost_ret (v:=.tuple #[.agg #[.int .i64 0,.string ⟨#[]⟩,.slice none 0 0],.int .i64 0]) (by simp [results,Tryz.results187,go_sem,b0,b1,b2,hz]) rfl ?_
     rw [HNO.out]
     exact tree_none hbel1
    ·have hq2:((k:Int)==(s.size:Int))=false:=by rw [beq_eq_false_iff_ne];omega
     have hq3:(k==s.size)=false:=by rw [beq_eq_false_iff_ne];omega
     have hlt:k<s.size:=by omega
     have hltz:(k:Int)<(s.size:Int):=by omega
     by_cases h93:s[k]=93
     ·have hq4:((s[k].toNat:Int) != 93)=false:=by rw [h93];rfl
      have hk1:k≠1:=fun e=>hn0 (by have:=HOK.out.2.2.1.2 e;rw [HN.out,this];rfl)
      have HNO:Hid (O=some (charsP (clsL cs),s.data.toList.drop (k+1))):=hid (by rw [HO.out,HOK.out.close hlt h93,if_neg hk1])
      have HKK:Hid (s.size-(s.data.toList.drop (k+1)).length=k+1):=hid (by simp;omega)
      have hn9:n≤1048576:=by have:=H30.out;omega
      have HGB:Hid ((w.alloc (.cells #[.int .i64 0,.string ⟨#[]⟩,.slice none 0 0] 92)).heap.size≤g):=hid (by have:=(HR.out.lt (k:=g) rfl).1;simpa using this)
      clear h93 hk1 hke
      go_wp2_with (first
       |(go_at_call 193;((refine(HC.out _).mono ?_);rintro e w1 ⟨v1,rfl,hbuf⟩;have hr1:=RowR.below HR.out hbuf.below;have HR1:=hid hr1;have HB1:=hid (below_step HB.out hbuf.below);clear hr1 hbuf))
       |(go_at_call 194;((refine(bsort_any (w.heap.size+1) g c n cs _ HN.out HR1.out hn9).mono ?_);rintro e w2 ⟨rfl,hasc⟩;have HASC:=hid hasc;clear hasc))
       |(go_at_call 195;((refine(bcompact_any g c n cs _ _ HASC.out (RowR.cap HR1.out) hn9).mono ?_);rintro e w3 ⟨rfl,hcv,hT3⟩;have hbel3:=HB1.out.trans (hT3.below HB1.out.size (fun q hq=>by rw [hq];exact HGB.out));obtain⟨⟨b0,b1,b2⟩,⟨f0,f1,f2⟩,hz⟩:=box3p hbel3)))
      refine bodyPost_ret (v:=.tuple #[.agg #[.int .i64 1,.string ⟨(clsL cs).toArray⟩,.slice none 0 0],.int .i64 ((k:Int)+1)]) (by simp [results,Tryz.results187,go_sem,b0,b1,b2,hz]) rfl ?_
      rw [HNO.out]
      exact tree_some (p:=charsP (clsL cs)) (d:=0) (k:=k+1) (owN_leaf _ _ _ _ _) hbel3 (Nat.le_refl _) HKK.out
     ·have hq4:((s[k].toNat:Int) != 93)=true:=by rw [bne,show((s[k].toNat:Int)==93)=false from byte_ne (d:=93) h93];rfl
      have HNO:Hid (O=none):=hid (by rw [HO.out];exact HOK.out.stop HSP.out (fun _=>h93))
      clear h93 hke
      go_wp2_with (go_at_call 193;((refine(HC.out _).mono ?_);rintro e w1 ⟨v1,rfl,hbuf⟩;have hbel1:=below_step HB.out hbuf.below;obtain⟨⟨b0,b1,b2⟩,⟨f0,f1,f2⟩,hz⟩:=box3p hbel1;clear hbuf))
      refine bodyPost_ret (v:=.tuple #[.agg #[.int .i64 0,.string ⟨#[]⟩,.slice none 0 0],.int .i64 0]) (by simp [results,Tryz.results187,go_sem,b0,b1,b2,hz]) rfl ?_
      rw [HNO.out]
      exact tree_none hbel1
theorem iPat_any (s:ByteArray)(hs:s.size≤maxLen)(w:World):Calls Tryz.prog 93 #[.string s] w (ParseOut (patS s.data.toList) w):=iParsePat_any class_any s hs w
theorem iIs_any (s:ByteArray)(hs:s.size≤maxLen)(w:World):Calls Tryz.prog 91 #[.string s] w fun e w'=>e=.returned (.bool (patS s.data.toList).isSome)∧Below w.heap.size w w':=iIsPat_any class_any s hs w
end
end Go.Proofs.YtecladbckadijaaGreatDoor
