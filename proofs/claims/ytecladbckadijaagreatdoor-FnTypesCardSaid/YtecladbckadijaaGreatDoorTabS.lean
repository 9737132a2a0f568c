/- MERGED for a claim. -/
import Derived.Test.YtecladbckadijaaGreatDoorParI
import Derived.Lib.Join
import Derived.Lib.LaidU8
set_option linter.unusedVariables false
set_option linter.unusedSimpArgs false
set_option maxRecDepth 100000
set_option maxHeartbeats 16000000
namespace Go.Proofs.YtecladbckadijaaGreatDoor
open Go.Lib (hid)
section
open Go.RowKit NumP

def joinC (c:UInt8)(xs:List ByteArray):ByteArray:=⟨(Lib.join (xs.map (·.data.toList)) [c]).toArray⟩
def dots:ByteArray:=⟨#[46,46]⟩
def rangeS (x:Rg):ByteArray:=if x.lo=x.hi then fmtS x.lo else fmtS x.lo++dots++fmtS x.hi
def rngsT (l:List Rg):List ByteArray:=l.map rangeS
theorem rngs_take {l:List Rg}{k:Nat}(hk:k<l.length):rngsT (l.take (k+1))=rngsT (l.take k)++ [rangeS l[k]]:=by
 unfold rngsT
 rw [List.take_succ_eq_append_getElem hk,List.map_append];rfl
theorem fmtS_size {n:Int}(h:-9223372036854775808≤n)(h':n≤9223372036854775807):(fmtS n).size≤21:=(fmtL_length h h').2
theorem rangeS_size {x:Rg}(h:RgWf x):(rangeS x).size≤44:=by
 have h1:=fmtS_size h.1 h.2.1
 have h2:=fmtS_size h.2.2.1 h.2.2.2
 unfold rangeS
 split
 ·omega
 ·rw [ByteArray.size_append,ByteArray.size_append]
  have:dots.size=2:=rfl
  omega
theorem join_lenC {xs:List (List UInt8)}{m:Nat}{c:UInt8}(h:∀x∈xs,x.length≤m):(Lib.join xs [c]).length≤xs.length*(m+1):=by
 cases xs with
 | nil=>simp [Lib.join_nil]
 | cons x r =>
  rw [Lib.join_cons,List.length_append]
  have h2:(Lib.joinTail [c] r).length≤r.length*(m+1):=by
   have hr:∀x∈r,x.length≤m:=fun y hy=>h y (List.mem_cons_of_mem _ hy)
   clear h
   induction r with
   | nil=>simp [Lib.joinTail]
   | cons y r ih =>
    have h1:=ih (fun z hz=>hr z (List.mem_cons_of_mem _ hz))
    have h3:=hr y (List.mem_cons_self ..)
    unfold Lib.joinTail at h1 ⊢
    rw [List.map_cons,List.flatten_cons,List.length_append,List.length_append,List.length_cons,List.length_cons,List.length_nil,Nat.succ_mul]
    omega
  have h1:=h x (List.mem_cons_self ..)
  rw [List.length_cons,Nat.succ_mul];omega
theorem rngs_join_len {l:List Rg}(hn:l.length≤1048576)(hs:∀x∈l,RgWf x):(Lib.join ((rngsT l).map (·.data.toList)) [124]).length≤140737488355328:=by
 have h:=join_lenC (c:=124) (xs:=(rngsT l).map (·.data.toList)) (m:=44) (fun y hy=>by
  unfold rngsT at hy
  simp only [List.map_map,List.mem_map,Function.comp]at hy
  obtain⟨x,hx,rfl⟩:=hy
  have h1:=rangeS_size (hs x hx)
  have e:(rangeS x).data.toList.length=(rangeS x).size:=by simp
  rw [e];omega)
 have e:((rngsT l).map (·.data.toList)).length=l.length:=by simp [rngsT]
 rw [e]at h
 exact Nat.le_trans h (by omega)
def formatS (l:List Rg):ByteArray:=joinC 124 (rngsT l)
theorem formatS_size (l:List Rg):(formatS l).size=(Lib.join ((rngsT l).map (·.data.toList)) [124]).length:=rfl
theorem rangeS_same {x:Rg}(h:x.lo=x.hi):rangeS x=fmtS x.lo:=if_pos h
end
section
open Go.RowKit NumP

theorem fmtR_any (x:Rg)(h:RgWf x)(w:World):Calls Tryz.prog 68 #[.agg #[.int .i64 x.lo,.int .i64 x.hi]] w fun e w'=>e=.returned (.string (rangeS x))∧Below w.heap.size w w':=by
 obtain⟨w1,w2,w3,w4⟩:=h
 have hz1:=fmtS_size w1 w2
 have hz2:=fmtS_size w3 w4
 by_cases hq:x.lo=x.hi
 ·have hq':(x.lo==x.hi)=true:=by simpa using hq
  have HE:=hid (rangeS_same hq)
  clear hq
  go_enter Tryz.func68,Tryz.ntmps68
  go_wp2_with (go_at_call 43;refine(iFmt_any _ w1 w2 _).mono ?_;rintro e wa ⟨rfl,hb1⟩)
  go_ret
  exact⟨ret_str (by rw [HE.out]),below_step (below_al (Below.refl _ _) _) hb1⟩
 ·have hq':(x.lo==x.hi)=false:=by simpa using hq
  have HE:Hid (rangeS x=fmtS x.lo++(⟨#[46,46]⟩:ByteArray)++fmtS x.hi):=hid (if_neg hq)
  have hz3:(fmtS x.lo++(⟨#[46,46]⟩:ByteArray)).size≤23:=by rw [ByteArray.size_append];exact Nat.add_le_add_right hz1 2
  have hs1:¬9223372036854775807<(fmtS x.lo).size+2:=by omega
  have hs3:¬9223372036854775807<(fmtS x.lo++(⟨#[46,46]⟩:ByteArray)).size+(fmtS x.hi).size:=by omega
  have hs4:¬9223372036854775807<(fmtS x.lo).size+2+(fmtS x.hi).size:=by omega
  clear hq
  have HK:Hid (∀w',Below (w.alloc (.cells #[.int .i64 x.lo,.int .i64 x.hi] 80)).heap.size (w.alloc (.cells #[.int .i64 x.lo,.int .i64 x.hi] 80)) w'→(w'.cell? ⟨w.heap.size,0,none⟩=some (.int .i64 x.lo)∧w'.cell? ⟨w.heap.size,1,none⟩=some (.int .i64 x.hi))∧Below (w.alloc (.cells #[.int .i64 x.lo,.int .i64 x.hi] 80)).heap.size (w.alloc (.cells #[.int .i64 x.lo,.int .i64 x.hi] 80)) w'):=hid fun w' h=>⟨box2 h,h⟩
  go_enter Tryz.func68,Tryz.ntmps68
  go_wp2
  go_region_held3 (fun w'=>(w'.cell? ⟨w.heap.size,0,none⟩=some (.int .i64 x.lo)∧w'.cell? ⟨w.heap.size,1,none⟩=some (.int .i64 x.hi))∧Below (w.alloc (.cells #[.int .i64 x.lo,.int .i64 x.hi] 80)).heap.size (w.alloc (.cells #[.int .i64 x.lo,.int .i64 x.hi] 80)) w') (first|exact HK.out _ (Below.refl _ _).drew|exact HK.out _ (below_step (by assumption:_∧Below _ _ _).2 hbm)|assumption|go_keep)
   (first|(go_at_call 43;((with_reducible refine(iFmt_any x.lo w1 w2 _).mono ?_);rintro e wm ⟨rfl,hbm⟩))|(go_at_call 43;((with_reducible refine(iFmt_any x.hi w3 w4 _).mono ?_);rintro e wm ⟨rfl,hbm⟩)))
  all_goals
   have hB2:=(below_al (Below.refl w.heap.size w) (.cells #[.int .i64 x.lo,.int .i64 x.hi] 80)).trans ((by assumption:_∧Below (w.alloc _).heap.size _ _).2.mono (by simp))
   go_wp2
   go_ret
   exact⟨ret_str (by rw [HE.out]),hB2⟩
theorem iFormatR_any (v:Value)(l:List Rg)(w:World)(hv:HasG w v l)(hn:l.length≤1048576)(hs:∀x∈l,RgWf x):
  Calls Tryz.prog 33 #[v] w fun e w'=>e=.returned (.string (formatS l))∧Below w.heap.size w w':=by
 have HJ:=hid (rngs_join_len hn hs)
 obtain⟨A,cap,rfl,hn',hc⟩:=hv
 obtain⟨n,hnn⟩:∃n,n=l.length:=⟨_,rfl⟩
 have HN:Hid (n=l.length):=hid hnn
 rw [←hnn]at hn hn' ⊢
 clear hnn
 go_enter Tryz.func33,Tryz.ntmps33
 go_wp2
 go_loopw [3,9] (fun v i wr=>∃(k g c:Nat),k≤n∧i=.int .i64 k∧v=.slice (some ⟨g,0,none⟩) k c∧Row w.heap.size wr (.slice (some ⟨g,0,none⟩) k c) (rngsT (l.take k))∧Below w.heap.size w wr) (fun _ i _=>n-(intOf i).toNat)
 case atStart=>exact⟨0,w.heap.size,0,Nat.zero_le _,rfl,rfl,row_empty (heap_alloc_new w _) (Nat.le_refl _),below_al (Below.refl _ _) _⟩
 case round=>
  obtain⟨k,g,c,hk,rfl,rfl,hrow,hbel⟩:=hrel
  by_cases hlt:k<n
  ·have hlk:k<l.length:=by rw [←HN.out];exact hlt
   obtain⟨a,rfl,hab,hcell⟩:=HasG.gk hc k hlk
   have HWF:=hid (hs _ (List.getElem_mem hlk))
   have ht:=hid (rngs_take hlk)
   obtain⟨x,hx⟩:∃x,x=l[k]:=⟨_,rfl⟩
   rw [←hx]at hcell HWF ht
   obtain⟨c0,c1⟩:=hcell.below hbel hab
   have hgB:=(hrow.lt rfl).1
   clear hcell hx
   go_wp2_with (first
    |(go_at_call 68;refine(fmtR_any x HWF.out _).mono ?_;rintro e w1 ⟨rfl,hb1⟩;have hrow1:=(hrow.alloc _).below hb1;have hbel1:=below_step (below_al hbel _) hb1;clear hrow hb1)
    |(at_builtin;refine wpList_row_append rfl _ _ rfl w.heap.size g k c _ rfl hrow1 _ rfl (by omega) hbel1.size (k+1) rfl ?_;clear hrow1;intro g' c'' w2 hrow2 hg2))
   go_roundw
   case rel=>exact⟨k+1,g',c'',by omega,by go_num,rfl,by rw [ht.out];exact hrow2,(below_al hbel1 _).grown hg2 (below_al hbel1 _).size (fun _ h=>by cases h;exact hgB)⟩
   case measure=>simp [intOf];omega
  ·obtain rfl:k=n:=by omega
   rw [List.take_of_length_le (by have:=HN.out;omega)]at hrow
   have hlen:(rngsT l).length=k:=by have:=HN.out;simp [rngsT];omega
   have hcc:∀(j:Nat) x,(rngsT l)[j]? =some x→wr.cell? ⟨g,0+j,none⟩=some (.string x):=fun j x hx=>by
    obtain⟨hj,rfl⟩:=List.getElem?_eq_some_iff.1 hx
    rw [Nat.zero_add];exact hrow.cell hj
   have hgl:=(hrow.lt rfl).2
   have hcp:=hrow.cap.2
   have hJ:=Tryz.strings_Join g 0 c (rngsT l) ⟨#[124]⟩ wr hcc hgl (by omega) (by omega) HJ.out
   rw [hlen]at hJ
   clear hcc hlen hgl hrow
   go_wp2_with (go_at_call 35;refine hJ.mono ?_;rintro e w1 ⟨rfl,hb1⟩)
   go_ret
   exact⟨rfl,below_step hbel hb1⟩
end
section
open Go.RowKit

def tyW (k:Int):ByteArray:=if k=1 then⟨#[105,110,116]⟩else if k=2 then⟨#[116,101,120,116]⟩else if k=3 then⟨#[98,111,111,108]⟩else if k=4 then⟨#[101,110,117,109]⟩else if k=5 then⟨#[114,101,102]⟩else if k=6 then⟨#[102,108,97,103]⟩else⟨#[]⟩
def rgL (l:List Rg):List ByteArray:=if l.length=0 then []else [formatS l]
def qtL (s:ByteArray):List ByteArray:=if emB s=true then []else [quoteS s]
def tyP1 (t:Ty):List ByteArray:=[tyW t.k]++rgL t.rg
def tyP2 (t:Ty):List ByteArray:=tyP1 t++t.nm
def tyP3 (t:Ty):List ByteArray:=tyP2 t++qtL t.pt
def tyP4 (t:Ty):List ByteArray:=tyP3 t++qtL t.ph
noncomputable def fmtTy (t:Ty):ByteArray:=if isTyB t=true then joinC 32 (tyP4 t)else⟨#[]⟩
theorem tyW_size (k:Int):(tyW k).size≤4:=by
 unfold tyW
 repeat' split
 all_goals first|exact(by decide:(_:Nat)≤4)|(show(_:Nat)≤4;decide)
theorem formatS_le {l:List Rg}(hn:l.length≤1048576)(hs:∀x∈l,RgWf x):(formatS l).size≤47185920:=by
 rw [formatS_size]
 have:=join_lenC (xs:=(rngsT l).map (·.data.toList)) (m:=44) (c:=124) (fun x hx=>by
  obtain⟨y,hy,rfl⟩:=List.mem_map.1 hx
  obtain⟨z,hz,rfl⟩:=List.mem_map.1 hy
  have:=rangeS_size (hs z hz)
  rw [Array.length_toList]
  exact this)
 rw [List.length_map,show(rngsT l).length=l.length by simp [rngsT]]at this
 omega
theorem quoteS_sizeT (s:ByteArray):(quoteS s).size≤2*s.size+2:=by
 have h:∀l:List UInt8,(escL l).length≤2*l.length:=by
  intro l
  induction l with
  | nil=>simp [escL]
  | cons c l ih=>rw [escL];split<;>simp only [List.length_cons]<;>omega
 have h:=h s.data.toList
 have e:(quoteS s).size=(quoteL s.data.toList).length:=by unfold quoteS;rfl
 have e2:s.data.toList.length=s.size:=by simp
 rw [e];unfold quoteL;simp only [List.length_cons,List.length_append,List.length_nil];omega
structure TyFm (t:Ty):Prop where
 rg:t.rg.length≤1048576
 wf:∀x∈t.rg,RgWf x
 nm:t.nm.length≤1048576
 sz:∀s∈t.nm,s.size≤1048576
 pt:t.pt.size≤1048576
 ph:t.ph.size≤1048576
theorem rgL_mem {l:List Rg}(hn:l.length≤1048576)(hs:∀x∈l,RgWf x):∀x∈rgL l,x.size≤47185920:=by
 intro x hx
 unfold rgL at hx
 split at hx
 ·simp at hx
 ·rw [List.mem_singleton.1 hx];exact formatS_le hn hs
theorem qtL_mem {s:ByteArray}(h:s.size≤1048576):∀x∈qtL s,x.size≤47185920:=by
 intro x hx
 unfold qtL at hx
 split at hx
 ·simp at hx
 ·rw [List.mem_singleton.1 hx];have:=quoteS_sizeT s;omega
theorem rgL_len (l:List Rg):(rgL l).length≤1:=by unfold rgL;split<;>simp
theorem qtL_len (s:ByteArray):(qtL s).length≤1:=by unfold qtL;split<;>simp
theorem tyP_mem {t:Ty}(h:TyFm t):∀x∈tyP4 t,x.size≤47185920:=by
 intro x hx
 unfold tyP4 tyP3 tyP2 tyP1 at hx
 simp only [List.mem_append]at hx
 rcases hx with (((hx|hx)|hx)|hx)|hx
 ·rw [List.mem_singleton.1 hx];have:=tyW_size t.k;omega
 ·exact rgL_mem h.rg h.wf x hx
 ·have:=h.sz x hx;omega
 ·exact qtL_mem h.pt x hx
 ·exact qtL_mem h.ph x hx
theorem tyP_len {t:Ty}(h:TyFm t):(tyP4 t).length≤1048580:=by
 have:=rgL_len t.rg;have:=qtL_len t.pt;have:=qtL_len t.ph;have:=h.nm
 unfold tyP4 tyP3 tyP2 tyP1
 simp only [List.length_append,List.length_cons,List.length_nil];omega
theorem joinC_le {xs:List ByteArray}(h:∀x∈xs,x.size≤47185920)(hn:xs.length≤1048580):(Lib.join (xs.map (·.data.toList)) [32]).length≤140737488355328:=by
 have:=join_lenC (xs:=xs.map (·.data.toList)) (m:=47185920) (c:=32) (fun x hx=>by
  obtain⟨y,hy,rfl⟩:=List.mem_map.1 hx
  rw [Array.length_toList]
  exact h y hy)
 rw [List.length_map]at this
 have h2:xs.length*(47185920+1)≤1048580*(47185920+1):=Nat.mul_le_mul_right _ hn
 omega
end
section
open Go.RowKit

theorem row_one {B b:Nat}{W:World}{y:ByteArray}(hb:W.heap[b]? =some (.cells #[.string y] 9))(hB:B≤b):Row B W (.slice (some ⟨b,0,none⟩) 1 1) [y]:=⟨rfl,.inr ⟨b,1,#[.string y],rfl,hB,hb,by simp,by unfold maxLen;omega,rfl,rfl⟩⟩
theorem wpList_row_appends {ops:Array Oper}{rest:List Oper}{o:Oper}{a:Act}{Q:Exit→Act→World→Prop}{w:World}(hgd:o.guard=none)(s x:Operand)
  (ho:o.op=.call { callee:=.builtin .append,args:=#[s,x],argTypes:=#[25,25] })
  (B g n c:Nat) (L:List ByteArray) (hs:a.eval s=.slice (some ⟨g,0,none⟩) n c) (hrow:Row B w (.slice (some ⟨g,0,none⟩) n c) L)
  (v2:Value) (L2:List ByteArray) (hx:a.eval x=v2) (hv:Has w v2 L2) (hk:NilOk v2) (hn0:0<n) (hlen:n+L2.length≤4194304) (hbase:B≤w.heap.size) (q:Nat) (hq:q=n+L2.length)
  (h:∀g' c'' w',Row B w' (.slice (some ⟨g',0,none⟩) q c'') (L++L2)→w.grownBy w' (some g)→wpList Tryz.prog ops Q rest (a.put o.dst (.slice (some ⟨g',0,none⟩) q c'')) w'):
  wpList Tryz.prog ops Q (o::rest) a w:=by
 obtain⟨i0,hi,hz0,hz1,hz2⟩:=info_parts infoStr
 have hnL:=hrow.cap'
 subst hq
 subst hnL
 obtain⟨A,c2,rfl,hn',hc⟩:=id hv
 cases A with
 | none =>
  obtain rfl:=has_none hv
  obtain rfl:=hk _ _ rfl
  refine wpList_append_own_none hgd s x 25 ho B 9 i0 1 Tryz.underlying25 hi _ L.length _ hs hrow hx ?_
  refine h g c w ?_ (grown_below (Below.refl _ _))
  rw [List.append_nil];exact hrow
 | some p =>
  refine wpList_append_own _ hgd s x 25 ho B 9 i0 (.string ⟨#[]⟩) 1 16 Tryz.underlying25 hi hz0 hz1 hz2 rfl (by decide) _ L.length (L.map Value.string) hs hrow p L2.length c2 (L2.map Value.string) hx (by simp) (fun j u hj=>strs_cells hc j u hj) (fun u hu=>by obtain⟨y,_,rfl⟩:=List.mem_map.1 hu;rfl) (by unfold maxLen;omega) (by omega) hbase ?_
  intro v' w' h2 h3 h4
  rcases h2.2 with ⟨h5,_⟩|⟨g',cap',cur,h5,_⟩
  ·exact absurd (h4.1 h5).1 (by simp)
  ·subst h5
   refine h g' cap' w' ?_ h3
   unfold Row
   rw [List.length_append,List.map_append]
   exact h2
theorem isTy_kind {t:Ty}(h:isTyB t=true):1≤t.k∧t.k≤6:=by
 rcases Classical.em (t.k≠1∧t.k≠2∧t.k≠3∧t.k≠4∧t.k≠5∧t.k≠6)with hn|hn
 ·obtain⟨k,rg,nm,pt,ph⟩:=t
  rw [isTy_other rg nm pt ph hn]at h;cases h
 ·omega
theorem tyP_leaf {t:Ty}{L:List ByteArray}{r p h:List ByteArray}(e1:rgL t.rg=r)(e2:qtL t.pt=p)(e3:qtL t.ph=h)(e:L=((([tyW t.k]++r)++t.nm)++p)++h):tyP4 t=L:=by
 unfold tyP4 tyP3 tyP2 tyP1;rw [e1,e2,e3,e]
theorem TyBox.grown {w w':World}{b g:Nat}{k:Int}{vr vn:Value}{pt ph:ByteArray}(h:TyBox w b k vr vn pt ph)(hg:w.grownBy w' (some g))(hne:g≠b):TyBox w' b k vr vn pt ph:=(hg.block b h.lt (fun e=>hne (Option.some.inj e).symm)).trans h
theorem qtL_nil:qtL ⟨#[]⟩=[]:=rfl
theorem qtL_one {s:ByteArray}(h:emB s=false):qtL s=[quoteS s]:=by unfold qtL;rw [h];rfl
theorem rgL_nil {l:List Rg}(h:l.length=0):rgL l=[]:=if_pos h
theorem rgL_one {l:List Rg}(h:0<l.length):rgL l=[formatS l]:=if_neg (by omega)
def typeWs:List (List UInt8):=[[],[105,110,116],[116,101,120,116],[98,111,111,108],[101,110,117,109],[114,101,102],[102,108,97,103]]
theorem typeWs_at {k:Int}(h1:1≤k)(h6:k≤6):∃s,typeWs[k.toNat]? =some s∧(⟨s.toArray⟩:ByteArray)=tyW k:=by
 have h:k=1∨k=2∨k=3∨k=4∨k=5∨k=6:=by omega
 rcases h with rfl|rfl|rfl|rfl|rfl|rfl
 all_goals exact⟨_,rfl,rfl⟩
theorem iFmtTy_any (v:TyV)(t:Ty)(w:World)(h:HasTy w v t)(hc:CapN v.vn)(hk:NilTy v)(hf:TyFm t)
  (hT:∀i s,i<7→typeWs[i]? =some s→w.cell? ⟨0,i,none⟩=some (.string ⟨s.toArray⟩)):
  Calls Tryz.prog 10 #[v.val] w fun e w'=>e=.returned (.string (fmtTy t))∧Below w.heap.size w w':=by
 have HI:=hid (fun W (hb:Below w.heap.size w W)=>iIsTy_any v t W (h.below hb) hc ⟨hf.sz,hf.pt,hf.ph⟩)
 have HR:=hid (fun W (hb:Below w.heap.size w W)=>iFormatR_any v.vr t.rg W (h.rg.below hb) hf.rg hf.wf)
 have HN:=hid (fun W (hb:Below w.heap.size w W)=>h.nm.below hb)
 have HNK:=hid hk.2
 have HTK:=hid (fun(hq:isTyB t=true)=>isTy_kind hq)
 have HT:Hid (isTyB t=true→∀W,Below w.heap.size w W→W.cell? ⟨0,t.k.toNat,none⟩=some (.string (tyW t.k))):=hid fun hq W hb=>by
  obtain⟨h1,h6⟩:=isTy_kind hq
  obtain⟨s,e1,e2⟩:=typeWs_at h1 h6
  have h2:=hT _ s (by omega) e1
  rw [e2]at h2
  exact(hb.cell (lt_of_cell h2)).trans h2
 have HQ1:=hid (fun W=>iQuote_any t.pt hf.pt W)
 have HQ2:=hid (fun W=>iQuote_any t.ph hf.ph W)
 have HF:=hid hf
 obtain⟨A,c,h1,-⟩:=id h.rg
 obtain⟨A',c',h2,-⟩:=id h.nm
 have hkk:=h.k
 have hpt:=h.pt
 have hph:=h.ph
 obtain⟨k,vr,vn,pt,ph⟩:=v
 obtain rfl:vr=_:=h1
 obtain rfl:vn=_:=h2
 obtain rfl:k=t.k:=hkk
 obtain rfl:pt=t.pt:=hpt
 obtain rfl:ph=t.ph:=hph
 obtain⟨Z,hZ⟩:∃Z,Z=fmtTy t:=⟨_,rfl⟩
 have HZ0:Hid (isTyB t=false→Z=⟨#[]⟩):=hid fun hq=>by rw [hZ];unfold fmtTy;rw [hq];rfl
 have HZ1:Hid (isTyB t=true→Z=joinC 32 (tyP4 t)):=hid fun hq=>by rw [hZ];unfold fmtTy;rw [if_pos hq]
 have HL1:Hid (∀ {L:List ByteArray},tyP4 t=L→(Lib.join (L.map (·.data.toList)) [32]).length≤140737488355328∧L.length≤1048580):=hid fun e=>⟨by rw [←e];exact joinC_le (tyP_mem HF.out) (tyP_len HF.out),by rw [←e];exact tyP_len HF.out⟩
 rw [←hZ]
 have HB0:=hid (below_al (Below.refl w.heap.size w) (.cells #[.int .i64 t.k,.slice A t.rg.length c,.slice A' t.nm.length c',.string t.pt,.string t.ph] 27))
 have HX0:Hid (∀W,Below (w.alloc (.cells #[.int .i64 t.k,.slice A t.rg.length c,.slice A' t.nm.length c',.string t.pt,.string t.ph] 27)).heap.size (w.alloc (.cells #[.int .i64 t.k,.slice A t.rg.length c,.slice A' t.nm.length c',.string t.pt,.string t.ph] 27)) W→TyBox W w.heap.size t.k (.slice A t.rg.length c) (.slice A' t.nm.length c') t.pt t.ph):=hid fun W hb=>(hb.block _ (by simp)).trans (heap_alloc_new w _)
 have HNM:=hid hf.nm
 have HLEAF:=hid (fun(L r p q:List ByteArray) (e1:rgL t.rg=r) (e2:qtL t.pt=p) (e3:qtL t.ph=q) (e:L=((([tyW t.k]++r)++t.nm)++p)++q)=>tyP_leaf (t:=t) e1 e2 e3 e)
 have HRN:=hid (fun(hq:t.rg.length=0)=>rgL_nil hq)
 have HRO:=hid (fun(hq:0<t.rg.length)=>rgL_one hq)
 clear h hc hk hf hT hZ
 obtain⟨m,hm⟩:∃m,m=t.nm.length:=⟨_,rfl⟩
 have HMN:=hid hm
 rw [←hm]at HB0 HX0 HI HNM HN HNK ⊢
 clear hm
 generalize tyW t.k=wd at*
 generalize formatS t.rg=F at*
 generalize t.k=k at*
 generalize t.rg.length=n at*
 generalize t.nm=nm at*
 generalize t.pt=pt at*
 generalize t.ph=ph at*
 generalize isTyB t=b at*
 cases b
 ·obtain rfl:=HZ0.out rfl
  go_enter Tryz.func10,Tryz.ntmps10
  go_wp2_with fail
  refine(HI.out _ HB0.out).mono ?_
  rintro e w1 ⟨rfl,hb1⟩
  have HB1:=hid (below_step HB0.out hb1)
  clear hb1
  go_wp2
  go_ret
  exact⟨rfl,HB1.out⟩
 obtain⟨k1,k6⟩:=HTK.out rfl
 have HTT:=hid (HT.out rfl)
 obtain rfl:=HZ1.out rfl
 rcases Nat.eq_zero_or_pos n with hn0|hn0
 ·have hnd:decide ((0:Int)<(n:Int))=false:=by simp;omega
  subst hn0
  rcases em_cases pt with hp|⟨pa,pb,pc,pe⟩
  ·subst hp
   rcases em_cases ph with hq|⟨qa,qb,qc,qe⟩
   ·subst hq
    go_enter Tryz.func10,Tryz.ntmps10
    go_wp2_with fail
    refine(HI.out _ HB0.out).mono ?_
    rintro e w1 ⟨rfl,hb1⟩
    have HB1:=hid (below_step HB0.out hb1)
    have HX1:=hid (HX0.out w1 hb1)
    have HZ1:Hid (w.heap.size+1≤w1.heap.size):=hid (by have:=hb1.size;simpa using this)
    obtain⟨⟨x0,x1,x2,x3,x4⟩,-⟩:=five HX1.out
    have hlt1:w.heap.size<w1.heap.size:=HX1.out.lt
    have tc:=HTT.out _ HB1.out
    clear hb1
    obtain⟨q2,hq2⟩:∃q,q=1+nm.length:=⟨_,rfl⟩
    have hqb2:q2≤1048577:=by have:=HNM.out;have:=HMN.out;omega
    have hqi2:0<q2:=by omega
    have HQ_2:=hid hq2
    clear hq2
    have hnl:nm.length≤1048576:=by have:=HNM.out;have:=HMN.out;omega
    have hr:=row_one (B:=w.heap.size+1) (heap_alloc_new w1 (.cells #[.string wd] 9)) HZ1.out
    have hbx:=TyBox.below HX1.out (below_al (Below.refl _ _) (.cells #[.string wd] 9))
    have HBN:=hid (below_al HB1.out (.cells #[.string wd] 9))
    have hgl:w.heap.size+1≤w1.heap.size:=(hr.lt rfl).1
    have hz:w.heap.size+1≤(w1.alloc (.cells #[.string wd] 9)).heap.size:=hbx.lt
    go_wp2_with (first|fail|(at_builtin;refine wpList_row_appends rfl _ _ rfl (w.heap.size+1) w1.heap.size 1 1 _ rfl hr _ nm rfl (HN.out _ HBN.out) HNK.out (by omega) (by omega) hz q2 HQ_2.out ?_;intro g2 c2 w2 hrow hg;have HB2:=hid (HBN.out.grown hg HBN.out.size (fun j e=>by cases e;omega));have HX2:=hid (TyBox.grown hbx hg (by omega));have HR2:=hid hrow;have HZ2:Hid (w.heap.size+1≤w2.heap.size):=hid HX2.out.lt;clear hrow hg hr hz hgl hbx HBN x0 x1 x2 x3 x4 tc;obtain⟨⟨x0,x1,x2,x3,x4⟩,-⟩:=five HX2.out))
    have HLF:=hid (HLEAF.out ([wd]++nm) _ _ _ (HRN.out trivial) qtL_nil qtL_nil (by simp))
    have HJL:=hid (HL1.out HLF.out)
    have hr:=HR2.out
    have hln:([wd]++nm).length=q2:=(hr.cap').symm
    have hJ:=Tryz.strings_Join g2 0 c2 ([wd]++nm) ⟨#[32]⟩ w2 (fun j x hx=>by
     obtain⟨hj,rfl⟩:=List.getElem?_eq_some_iff.1 hx
     rw [Nat.zero_add];exact hr.cell hj) (hr.lt rfl).2 (by have:=HJL.out.2;omega) (by have:=hr.cap;omega) (Nat.le_trans HJL.out.1 (by omega))
    rw [hln]at hJ
    obtain⟨J,hJJ⟩:∃J,J=joinC 32 ([wd]++nm):=⟨_,rfl⟩
    have HJJ:=hid hJJ
    have HJ:Hid (Calls Tryz.prog 35 #[.slice (some ⟨g2,0,none⟩) q2 c2,.string ⟨#[32]⟩] w2 fun e w'=>e=.returned (.string J)∧Below w2.heap.size w2 w'):=hid (by rw [hJJ];exact hJ)
    clear hJ hln hr hJJ
    go_wp2_with fail
    refine HJ.out.mono ?_
    rintro e wz ⟨rfl,hb⟩
    have HBZ:=hid (below_step HB2.out hb)
    clear hb x0 x1 x2 x3 x4
    go_wp2
    go_ret
    exact⟨(by rw [HLF.out,←HJJ.out];first|done|rfl),HBZ.out⟩
   ·skip
    go_enter Tryz.func10,Tryz.ntmps10
    go_wp2_with fail
    refine(HI.out _ HB0.out).mono ?_
    rintro e w1 ⟨rfl,hb1⟩
    have HB1:=hid (below_step HB0.out hb1)
    have HX1:=hid (HX0.out w1 hb1)
    have HZ1:Hid (w.heap.size+1≤w1.heap.size):=hid (by have:=hb1.size;simpa using this)
    obtain⟨⟨x0,x1,x2,x3,x4⟩,-⟩:=five HX1.out
    have hlt1:w.heap.size<w1.heap.size:=HX1.out.lt
    have tc:=HTT.out _ HB1.out
    clear hb1
    obtain⟨q2,hq2⟩:∃q,q=1+nm.length:=⟨_,rfl⟩
    have hqb2:q2≤1048577:=by have:=HNM.out;have:=HMN.out;omega
    have hqi2:0<q2:=by omega
    have HQ_2:=hid hq2
    clear hq2
    have hnl:nm.length≤1048576:=by have:=HNM.out;have:=HMN.out;omega
    have hr:=row_one (B:=w.heap.size+1) (heap_alloc_new w1 (.cells #[.string wd] 9)) HZ1.out
    have hbx:=TyBox.below HX1.out (below_al (Below.refl _ _) (.cells #[.string wd] 9))
    have HBN:=hid (below_al HB1.out (.cells #[.string wd] 9))
    have hgl:w.heap.size+1≤w1.heap.size:=(hr.lt rfl).1
    have hz:w.heap.size+1≤(w1.alloc (.cells #[.string wd] 9)).heap.size:=hbx.lt
    go_wp2_with (first|fail|(at_builtin;refine wpList_row_appends rfl _ _ rfl (w.heap.size+1) w1.heap.size 1 1 _ rfl hr _ nm rfl (HN.out _ HBN.out) HNK.out (by omega) (by omega) hz q2 HQ_2.out ?_;intro g2 c2 w2 hrow hg;have HB2:=hid (HBN.out.grown hg HBN.out.size (fun j e=>by cases e;omega));have HX2:=hid (TyBox.grown hbx hg (by omega));have HR2:=hid hrow;have HZ2:Hid (w.heap.size+1≤w2.heap.size):=hid HX2.out.lt;clear hrow hg hr hz hgl hbx HBN x0 x1 x2 x3 x4 tc;obtain⟨⟨x0,x1,x2,x3,x4⟩,-⟩:=five HX2.out))
    go_wp2_with fail
    refine(HQ2.out _).mono ?_
    rintro e w3 ⟨rfl,hb⟩
    have HB3:=hid (below_step HB2.out hb)
    have HX3:=hid (HX2.out.below hb)
    have HR3:=hid (HR2.out.below hb)
    have HZ3:Hid (w.heap.size+1≤w3.heap.size):=hid HX3.out.lt
    clear hb x0 x1 x2 x3 x4
    obtain⟨⟨x0,x1,x2,x3,x4⟩,-⟩:=five HX3.out
    obtain⟨q4,hq4⟩:∃q,q=q2+1:=⟨_,rfl⟩
    have hqb4:q4≤1048578:=by omega
    have hqi4:0<q4:=by omega
    have HQ_4:=hid hq4
    clear hq4
    have hr:=HR3.out
    have hz:=HZ3.out
    have hgl:w.heap.size+1≤g2:=(hr.lt rfl).1
    go_wp2_with (first|fail|(at_builtin;refine wpList_row_append rfl _ _ rfl (w.heap.size+1) g2 q2 c2 _ rfl hr _ rfl (by omega) hz q4 HQ_4.out ?_;intro g4 c4 w4 hrow hg;have HB4:=hid ((below_al HB3.out (.cells #[.string (quoteS ph)] 9)).grown hg (below_al HB3.out (.cells #[.string (quoteS ph)] 9)).size (fun j e=>by cases e;omega));have HX4:=hid (TyBox.grown (TyBox.below HX3.out (below_al (Below.refl _ _) (.cells #[.string (quoteS ph)] 9))) hg (by omega));have HR4:=hid hrow;have HZ4:Hid (w.heap.size+1≤w4.heap.size):=hid HX4.out.lt;clear hrow hg hr hz hgl x0 x1 x2 x3 x4;obtain⟨⟨x0,x1,x2,x3,x4⟩,-⟩:=five HX4.out))
    have HLF:=hid (HLEAF.out ([wd]++nm++ [(quoteS ph)]) _ _ _ (HRN.out trivial) qtL_nil (qtL_one qe) (by simp))
    have HJL:=hid (HL1.out HLF.out)
    have hr:=HR4.out
    have hln:([wd]++nm++ [(quoteS ph)]).length=q4:=(hr.cap').symm
    have hJ:=Tryz.strings_Join g4 0 c4 ([wd]++nm++ [(quoteS ph)]) ⟨#[32]⟩ w4 (fun j x hx=>by
     obtain⟨hj,rfl⟩:=List.getElem?_eq_some_iff.1 hx
     rw [Nat.zero_add];exact hr.cell hj) (hr.lt rfl).2 (by have:=HJL.out.2;omega) (by have:=hr.cap;omega) (Nat.le_trans HJL.out.1 (by omega))
    rw [hln]at hJ
    obtain⟨J,hJJ⟩:∃J,J=joinC 32 ([wd]++nm++ [(quoteS ph)]):=⟨_,rfl⟩
    have HJJ:=hid hJJ
    have HJ:Hid (Calls Tryz.prog 35 #[.slice (some ⟨g4,0,none⟩) q4 c4,.string ⟨#[32]⟩] w4 fun e w'=>e=.returned (.string J)∧Below w4.heap.size w4 w'):=hid (by rw [hJJ];exact hJ)
    clear hJ hln hr hJJ
    go_wp2_with fail
    refine HJ.out.mono ?_
    rintro e wz ⟨rfl,hb⟩
    have HBZ:=hid (below_step HB4.out hb)
    clear hb x0 x1 x2 x3 x4
    go_wp2
    go_ret
    exact⟨(by rw [HLF.out,←HJJ.out];first|done|rfl),HBZ.out⟩
  ·skip
   rcases em_cases ph with hq|⟨qa,qb,qc,qe⟩
   ·subst hq
    go_enter Tryz.func10,Tryz.ntmps10
    go_wp2_with fail
    refine(HI.out _ HB0.out).mono ?_
    rintro e w1 ⟨rfl,hb1⟩
    have HB1:=hid (below_step HB0.out hb1)
    have HX1:=hid (HX0.out w1 hb1)
    have HZ1:Hid (w.heap.size+1≤w1.heap.size):=hid (by have:=hb1.size;simpa using this)
    obtain⟨⟨x0,x1,x2,x3,x4⟩,-⟩:=five HX1.out
    have hlt1:w.heap.size<w1.heap.size:=HX1.out.lt
    have tc:=HTT.out _ HB1.out
    clear hb1
    obtain⟨q2,hq2⟩:∃q,q=1+nm.length:=⟨_,rfl⟩
    have hqb2:q2≤1048577:=by have:=HNM.out;have:=HMN.out;omega
    have hqi2:0<q2:=by omega
    have HQ_2:=hid hq2
    clear hq2
    have hnl:nm.length≤1048576:=by have:=HNM.out;have:=HMN.out;omega
    have hr:=row_one (B:=w.heap.size+1) (heap_alloc_new w1 (.cells #[.string wd] 9)) HZ1.out
    have hbx:=TyBox.below HX1.out (below_al (Below.refl _ _) (.cells #[.string wd] 9))
    have HBN:=hid (below_al HB1.out (.cells #[.string wd] 9))
    have hgl:w.heap.size+1≤w1.heap.size:=(hr.lt rfl).1
    have hz:w.heap.size+1≤(w1.alloc (.cells #[.string wd] 9)).heap.size:=hbx.lt
    go_wp2_with (first|fail|(at_builtin;refine wpList_row_appends rfl _ _ rfl (w.heap.size+1) w1.heap.size 1 1 _ rfl hr _ nm rfl (HN.out _ HBN.out) HNK.out (by omega) (by omega) hz q2 HQ_2.out ?_;intro g2 c2 w2 hrow hg;have HB2:=hid (HBN.out.grown hg HBN.out.size (fun j e=>by cases e;omega));have HX2:=hid (TyBox.grown hbx hg (by omega));have HR2:=hid hrow;have HZ2:Hid (w.heap.size+1≤w2.heap.size):=hid HX2.out.lt;clear hrow hg hr hz hgl hbx HBN x0 x1 x2 x3 x4 tc;obtain⟨⟨x0,x1,x2,x3,x4⟩,-⟩:=five HX2.out))
    go_wp2_with fail
    refine(HQ1.out _).mono ?_
    rintro e w3 ⟨rfl,hb⟩
    have HB3:=hid (below_step HB2.out hb)
    have HX3:=hid (HX2.out.below hb)
    have HR3:=hid (HR2.out.below hb)
    have HZ3:Hid (w.heap.size+1≤w3.heap.size):=hid HX3.out.lt
    clear hb x0 x1 x2 x3 x4
    obtain⟨⟨x0,x1,x2,x3,x4⟩,-⟩:=five HX3.out
    obtain⟨q4,hq4⟩:∃q,q=q2+1:=⟨_,rfl⟩
    have hqb4:q4≤1048578:=by omega
    have hqi4:0<q4:=by omega
    have HQ_4:=hid hq4
    clear hq4
    have hr:=HR3.out
    have hz:=HZ3.out
    have hgl:w.heap.size+1≤g2:=(hr.lt rfl).1
    go_wp2_with (first|fail|(at_builtin;refine wpList_row_append rfl _ _ rfl (w.heap.size+1) g2 q2 c2 _ rfl hr _ rfl (by omega) hz q4 HQ_4.out ?_;intro g4 c4 w4 hrow hg;have HB4:=hid ((below_al HB3.out (.cells #[.string (quoteS pt)] 9)).grown hg (below_al HB3.out (.cells #[.string (quoteS pt)] 9)).size (fun j e=>by cases e;omega));have HX4:=hid (TyBox.grown (TyBox.below HX3.out (below_al (Below.refl _ _) (.cells #[.string (quoteS pt)] 9))) hg (by omega));have HR4:=hid hrow;have HZ4:Hid (w.heap.size+1≤w4.heap.size):=hid HX4.out.lt;clear hrow hg hr hz hgl x0 x1 x2 x3 x4;obtain⟨⟨x0,x1,x2,x3,x4⟩,-⟩:=five HX4.out))
    have HLF:=hid (HLEAF.out ([wd]++nm++ [(quoteS pt)]) _ _ _ (HRN.out trivial) (qtL_one pe) qtL_nil (by simp))
    have HJL:=hid (HL1.out HLF.out)
    have hr:=HR4.out
    have hln:([wd]++nm++ [(quoteS pt)]).length=q4:=(hr.cap').symm
    have hJ:=Tryz.strings_Join g4 0 c4 ([wd]++nm++ [(quoteS pt)]) ⟨#[32]⟩ w4 (fun j x hx=>by
     obtain⟨hj,rfl⟩:=List.getElem?_eq_some_iff.1 hx
     rw [Nat.zero_add];exact hr.cell hj) (hr.lt rfl).2 (by have:=HJL.out.2;omega) (by have:=hr.cap;omega) (Nat.le_trans HJL.out.1 (by omega))
    rw [hln]at hJ
    obtain⟨J,hJJ⟩:∃J,J=joinC 32 ([wd]++nm++ [(quoteS pt)]):=⟨_,rfl⟩
    have HJJ:=hid hJJ
    have HJ:Hid (Calls Tryz.prog 35 #[.slice (some ⟨g4,0,none⟩) q4 c4,.string ⟨#[32]⟩] w4 fun e w'=>e=.returned (.string J)∧Below w4.heap.size w4 w'):=hid (by rw [hJJ];exact hJ)
    clear hJ hln hr hJJ
    go_wp2_with fail
    refine HJ.out.mono ?_
    rintro e wz ⟨rfl,hb⟩
    have HBZ:=hid (below_step HB4.out hb)
    clear hb x0 x1 x2 x3 x4
    go_wp2
    go_ret
    exact⟨(by rw [HLF.out,←HJJ.out];first|done|rfl),HBZ.out⟩
   ·skip
    go_enter Tryz.func10,Tryz.ntmps10
    go_wp2_with fail
    refine(HI.out _ HB0.out).mono ?_
    rintro e w1 ⟨rfl,hb1⟩
    have HB1:=hid (below_step HB0.out hb1)
    have HX1:=hid (HX0.out w1 hb1)
    have HZ1:Hid (w.heap.size+1≤w1.heap.size):=hid (by have:=hb1.size;simpa using this)
    obtain⟨⟨x0,x1,x2,x3,x4⟩,-⟩:=five HX1.out
    have hlt1:w.heap.size<w1.heap.size:=HX1.out.lt
    have tc:=HTT.out _ HB1.out
    clear hb1
    obtain⟨q2,hq2⟩:∃q,q=1+nm.length:=⟨_,rfl⟩
    have hqb2:q2≤1048577:=by have:=HNM.out;have:=HMN.out;omega
    have hqi2:0<q2:=by omega
    have HQ_2:=hid hq2
    clear hq2
    have hnl:nm.length≤1048576:=by have:=HNM.out;have:=HMN.out;omega
    have hr:=row_one (B:=w.heap.size+1) (heap_alloc_new w1 (.cells #[.string wd] 9)) HZ1.out
    have hbx:=TyBox.below HX1.out (below_al (Below.refl _ _) (.cells #[.string wd] 9))
    have HBN:=hid (below_al HB1.out (.cells #[.string wd] 9))
    have hgl:w.heap.size+1≤w1.heap.size:=(hr.lt rfl).1
    have hz:w.heap.size+1≤(w1.alloc (.cells #[.string wd] 9)).heap.size:=hbx.lt
    go_wp2_with (first|fail|(at_builtin;refine wpList_row_appends rfl _ _ rfl (w.heap.size+1) w1.heap.size 1 1 _ rfl hr _ nm rfl (HN.out _ HBN.out) HNK.out (by omega) (by omega) hz q2 HQ_2.out ?_;intro g2 c2 w2 hrow hg;have HB2:=hid (HBN.out.grown hg HBN.out.size (fun j e=>by cases e;omega));have HX2:=hid (TyBox.grown hbx hg (by omega));have HR2:=hid hrow;have HZ2:Hid (w.heap.size+1≤w2.heap.size):=hid HX2.out.lt;clear hrow hg hr hz hgl hbx HBN x0 x1 x2 x3 x4 tc;obtain⟨⟨x0,x1,x2,x3,x4⟩,-⟩:=five HX2.out))
    go_wp2_with fail
    refine(HQ1.out _).mono ?_
    rintro e w3 ⟨rfl,hb⟩
    have HB3:=hid (below_step HB2.out hb)
    have HX3:=hid (HX2.out.below hb)
    have HR3:=hid (HR2.out.below hb)
    have HZ3:Hid (w.heap.size+1≤w3.heap.size):=hid HX3.out.lt
    clear hb x0 x1 x2 x3 x4
    obtain⟨⟨x0,x1,x2,x3,x4⟩,-⟩:=five HX3.out
    obtain⟨q4,hq4⟩:∃q,q=q2+1:=⟨_,rfl⟩
    have hqb4:q4≤1048578:=by omega
    have hqi4:0<q4:=by omega
    have HQ_4:=hid hq4
    clear hq4
    have hr:=HR3.out
    have hz:=HZ3.out
    have hgl:w.heap.size+1≤g2:=(hr.lt rfl).1
    go_wp2_with (first|fail|(at_builtin;refine wpList_row_append rfl _ _ rfl (w.heap.size+1) g2 q2 c2 _ rfl hr _ rfl (by omega) hz q4 HQ_4.out ?_;intro g4 c4 w4 hrow hg;have HB4:=hid ((below_al HB3.out (.cells #[.string (quoteS pt)] 9)).grown hg (below_al HB3.out (.cells #[.string (quoteS pt)] 9)).size (fun j e=>by cases e;omega));have HX4:=hid (TyBox.grown (TyBox.below HX3.out (below_al (Below.refl _ _) (.cells #[.string (quoteS pt)] 9))) hg (by omega));have HR4:=hid hrow;have HZ4:Hid (w.heap.size+1≤w4.heap.size):=hid HX4.out.lt;clear hrow hg hr hz hgl x0 x1 x2 x3 x4;obtain⟨⟨x0,x1,x2,x3,x4⟩,-⟩:=five HX4.out))
    go_wp2_with fail
    refine(HQ2.out _).mono ?_
    rintro e w5 ⟨rfl,hb⟩
    have HB5:=hid (below_step HB4.out hb)
    have HX5:=hid (HX4.out.below hb)
    have HR5:=hid (HR4.out.below hb)
    have HZ5:Hid (w.heap.size+1≤w5.heap.size):=hid HX5.out.lt
    clear hb x0 x1 x2 x3 x4
    obtain⟨⟨x0,x1,x2,x3,x4⟩,-⟩:=five HX5.out
    obtain⟨q6,hq6⟩:∃q,q=q4+1:=⟨_,rfl⟩
    have hqb6:q6≤1048579:=by omega
    have hqi6:0<q6:=by omega
    have HQ_6:=hid hq6
    clear hq6
    have hr:=HR5.out
    have hz:=HZ5.out
    have hgl:w.heap.size+1≤g4:=(hr.lt rfl).1
    go_wp2_with (first|fail|(at_builtin;refine wpList_row_append rfl _ _ rfl (w.heap.size+1) g4 q4 c4 _ rfl hr _ rfl (by omega) hz q6 HQ_6.out ?_;intro g6 c6 w6 hrow hg;have HB6:=hid ((below_al HB5.out (.cells #[.string (quoteS ph)] 9)).grown hg (below_al HB5.out (.cells #[.string (quoteS ph)] 9)).size (fun j e=>by cases e;omega));have HX6:=hid (TyBox.grown (TyBox.below HX5.out (below_al (Below.refl _ _) (.cells #[.string (quoteS ph)] 9))) hg (by omega));have HR6:=hid hrow;have HZ6:Hid (w.heap.size+1≤w6.heap.size):=hid HX6.out.lt;clear hrow hg hr hz hgl x0 x1 x2 x3 x4;obtain⟨⟨x0,x1,x2,x3,x4⟩,-⟩:=five HX6.out))
    have HLF:=hid (HLEAF.out ([wd]++nm++ [(quoteS pt)]++ [(quoteS ph)]) _ _ _ (HRN.out trivial) (qtL_one pe) (qtL_one qe) (by simp))
    have HJL:=hid (HL1.out HLF.out)
    have hr:=HR6.out
    have hln:([wd]++nm++ [(quoteS pt)]++ [(quoteS ph)]).length=q6:=(hr.cap').symm
    have hJ:=Tryz.strings_Join g6 0 c6 ([wd]++nm++ [(quoteS pt)]++ [(quoteS ph)]) ⟨#[32]⟩ w6 (fun j x hx=>by
     obtain⟨hj,rfl⟩:=List.getElem?_eq_some_iff.1 hx
     rw [Nat.zero_add];exact hr.cell hj) (hr.lt rfl).2 (by have:=HJL.out.2;omega) (by have:=hr.cap;omega) (Nat.le_trans HJL.out.1 (by omega))
    rw [hln]at hJ
    obtain⟨J,hJJ⟩:∃J,J=joinC 32 ([wd]++nm++ [(quoteS pt)]++ [(quoteS ph)]):=⟨_,rfl⟩
    have HJJ:=hid hJJ
    have HJ:Hid (Calls Tryz.prog 35 #[.slice (some ⟨g6,0,none⟩) q6 c6,.string ⟨#[32]⟩] w6 fun e w'=>e=.returned (.string J)∧Below w6.heap.size w6 w'):=hid (by rw [hJJ];exact hJ)
    clear hJ hln hr hJJ
    go_wp2_with fail
    refine HJ.out.mono ?_
    rintro e wz ⟨rfl,hb⟩
    have HBZ:=hid (below_step HB6.out hb)
    clear hb x0 x1 x2 x3 x4
    go_wp2
    go_ret
    exact⟨(by rw [HLF.out,←HJJ.out];first|done|rfl),HBZ.out⟩
 ·have hnd:decide ((0:Int)<(n:Int))=true:=by simp;omega
  have hnp:(0:Int)<(n:Int):=by omega
  rcases em_cases pt with hp|⟨pa,pb,pc,pe⟩
  ·subst hp
   rcases em_cases ph with hq|⟨qa,qb,qc,qe⟩
   ·subst hq
    go_enter Tryz.func10,Tryz.ntmps10
    go_wp2_with fail
    refine(HI.out _ HB0.out).mono ?_
    rintro e w1 ⟨rfl,hb1⟩
    have HB1:=hid (below_step HB0.out hb1)
    have HX1:=hid (HX0.out w1 hb1)
    have HZ1:Hid (w.heap.size+1≤w1.heap.size):=hid (by have:=hb1.size;simpa using this)
    obtain⟨⟨x0,x1,x2,x3,x4⟩,-⟩:=five HX1.out
    have hlt1:w.heap.size<w1.heap.size:=HX1.out.lt
    have tc:=HTT.out _ HB1.out
    clear hb1
    go_wp2_with fail
    refine(HR.out _ (below_al HB1.out (.cells #[.string wd] 9))).mono ?_
    rintro e w2 ⟨rfl,hb⟩
    have HB2:=hid (below_step (below_al HB1.out (.cells #[.string wd] 9)) hb)
    have HX2:=hid (TyBox.below (TyBox.below HX1.out (below_al (Below.refl _ _) (.cells #[.string wd] 9))) hb)
    have HR2:=hid (Row.below (row_one (B:=w.heap.size+1) (heap_alloc_new w1 (.cells #[.string wd] 9)) HZ1.out) hb)
    have HZ2:Hid (w.heap.size+1≤w2.heap.size):=hid HX2.out.lt
    clear hb x0 x1 x2 x3 x4 tc
    obtain⟨⟨x0,x1,x2,x3,x4⟩,-⟩:=five HX2.out
    obtain⟨q3,hq3⟩:∃q,q=1+1:=⟨_,rfl⟩
    have hqb3:q3≤2:=by omega
    have hqi3:0<q3:=by omega
    have HQ_3:=hid hq3
    clear hq3
    have hr:=HR2.out
    have hz:=HZ2.out
    have hgl:w.heap.size+1≤w1.heap.size:=(hr.lt rfl).1
    go_wp2_with (first|fail|(at_builtin;refine wpList_row_append rfl _ _ rfl (w.heap.size+1) w1.heap.size 1 1 _ rfl hr _ rfl (by omega) hz q3 HQ_3.out ?_;intro g3 c3 w3 hrow hg;have HB3:=hid ((below_al HB2.out (.cells #[.string F] 9)).grown hg (below_al HB2.out (.cells #[.string F] 9)).size (fun j e=>by cases e;omega));have HX3:=hid (TyBox.grown (TyBox.below HX2.out (below_al (Below.refl _ _) (.cells #[.string F] 9))) hg (by omega));have HR3:=hid hrow;have HZ3:Hid (w.heap.size+1≤w3.heap.size):=hid HX3.out.lt;clear hrow hg hr hz hgl x0 x1 x2 x3 x4;obtain⟨⟨x0,x1,x2,x3,x4⟩,-⟩:=five HX3.out;obtain⟨q4,hq4⟩:∃q,q=q3+nm.length:=⟨_,rfl⟩;have hqb4:q4≤1048578:=(by have:=HNM.out;have:=HMN.out;omega);have hqi4:0<q4:=(by omega);have HQ_4:=hid hq4;clear hq4;have hnl:nm.length≤1048576:=(by have:=HNM.out;have:=HMN.out;omega);have hr:=HR3.out;have hbx:=HX3.out;have HBN:=hid HB3.out;have hgl:w.heap.size+1≤g3:=(hr.lt rfl).1;have hz:w.heap.size+1≤w3.heap.size:=hbx.lt)|(at_builtin;refine wpList_row_appends rfl _ _ rfl (w.heap.size+1) g3 q3 c3 _ rfl hr _ nm rfl (HN.out _ HBN.out) HNK.out (by omega) (by omega) hz q4 HQ_4.out ?_;intro g4 c4 w4 hrow hg;have HB4:=hid (HBN.out.grown hg HBN.out.size (fun j e=>by cases e;omega));have HX4:=hid (TyBox.grown hbx hg (by omega));have HR4:=hid hrow;have HZ4:Hid (w.heap.size+1≤w4.heap.size):=hid HX4.out.lt;clear hrow hg hr hz hgl hbx HBN x0 x1 x2 x3 x4;obtain⟨⟨x0,x1,x2,x3,x4⟩,-⟩:=five HX4.out))
    have HLF:=hid (HLEAF.out ([wd]++ [F]++nm) _ _ _ (HRO.out hn0) qtL_nil qtL_nil (by simp))
    have HJL:=hid (HL1.out HLF.out)
    have hr:=HR4.out
    have hln:([wd]++ [F]++nm).length=q4:=(hr.cap').symm
    have hJ:=Tryz.strings_Join g4 0 c4 ([wd]++ [F]++nm) ⟨#[32]⟩ w4 (fun j x hx=>by
     obtain⟨hj,rfl⟩:=List.getElem?_eq_some_iff.1 hx
     rw [Nat.zero_add];exact hr.cell hj) (hr.lt rfl).2 (by have:=HJL.out.2;omega) (by have:=hr.cap;omega) (Nat.le_trans HJL.out.1 (by omega))
    rw [hln]at hJ
    obtain⟨J,hJJ⟩:∃J,J=joinC 32 ([wd]++ [F]++nm):=⟨_,rfl⟩
    have HJJ:=hid hJJ
    have HJ:Hid (Calls Tryz.prog 35 #[.slice (some ⟨g4,0,none⟩) q4 c4,.string ⟨#[32]⟩] w4 fun e w'=>e=.returned (.string J)∧Below w4.heap.size w4 w'):=hid (by rw [hJJ];exact hJ)
    clear hJ hln hr hJJ
    go_wp2_with fail
    refine HJ.out.mono ?_
    rintro e wz ⟨rfl,hb⟩
    have HBZ:=hid (below_step HB4.out hb)
    clear hb x0 x1 x2 x3 x4
    go_wp2
    go_ret
    exact⟨(by rw [HLF.out,←HJJ.out];first|done|rfl),HBZ.out⟩
   ·skip
    go_enter Tryz.func10,Tryz.ntmps10
    go_wp2_with fail
    refine(HI.out _ HB0.out).mono ?_
    rintro e w1 ⟨rfl,hb1⟩
    have HB1:=hid (below_step HB0.out hb1)
    have HX1:=hid (HX0.out w1 hb1)
    have HZ1:Hid (w.heap.size+1≤w1.heap.size):=hid (by have:=hb1.size;simpa using this)
    obtain⟨⟨x0,x1,x2,x3,x4⟩,-⟩:=five HX1.out
    have hlt1:w.heap.size<w1.heap.size:=HX1.out.lt
    have tc:=HTT.out _ HB1.out
    clear hb1
    go_wp2_with fail
    refine(HR.out _ (below_al HB1.out (.cells #[.string wd] 9))).mono ?_
    rintro e w2 ⟨rfl,hb⟩
    have HB2:=hid (below_step (below_al HB1.out (.cells #[.string wd] 9)) hb)
    have HX2:=hid (TyBox.below (TyBox.below HX1.out (below_al (Below.refl _ _) (.cells #[.string wd] 9))) hb)
    have HR2:=hid (Row.below (row_one (B:=w.heap.size+1) (heap_alloc_new w1 (.cells #[.string wd] 9)) HZ1.out) hb)
    have HZ2:Hid (w.heap.size+1≤w2.heap.size):=hid HX2.out.lt
    clear hb x0 x1 x2 x3 x4 tc
    obtain⟨⟨x0,x1,x2,x3,x4⟩,-⟩:=five HX2.out
    obtain⟨q3,hq3⟩:∃q,q=1+1:=⟨_,rfl⟩
    have hqb3:q3≤2:=by omega
    have hqi3:0<q3:=by omega
    have HQ_3:=hid hq3
    clear hq3
    have hr:=HR2.out
    have hz:=HZ2.out
    have hgl:w.heap.size+1≤w1.heap.size:=(hr.lt rfl).1
    go_wp2_with (first|fail|(at_builtin;refine wpList_row_append rfl _ _ rfl (w.heap.size+1) w1.heap.size 1 1 _ rfl hr _ rfl (by omega) hz q3 HQ_3.out ?_;intro g3 c3 w3 hrow hg;have HB3:=hid ((below_al HB2.out (.cells #[.string F] 9)).grown hg (below_al HB2.out (.cells #[.string F] 9)).size (fun j e=>by cases e;omega));have HX3:=hid (TyBox.grown (TyBox.below HX2.out (below_al (Below.refl _ _) (.cells #[.string F] 9))) hg (by omega));have HR3:=hid hrow;have HZ3:Hid (w.heap.size+1≤w3.heap.size):=hid HX3.out.lt;clear hrow hg hr hz hgl x0 x1 x2 x3 x4;obtain⟨⟨x0,x1,x2,x3,x4⟩,-⟩:=five HX3.out;obtain⟨q4,hq4⟩:∃q,q=q3+nm.length:=⟨_,rfl⟩;have hqb4:q4≤1048578:=(by have:=HNM.out;have:=HMN.out;omega);have hqi4:0<q4:=(by omega);have HQ_4:=hid hq4;clear hq4;have hnl:nm.length≤1048576:=(by have:=HNM.out;have:=HMN.out;omega);have hr:=HR3.out;have hbx:=HX3.out;have HBN:=hid HB3.out;have hgl:w.heap.size+1≤g3:=(hr.lt rfl).1;have hz:w.heap.size+1≤w3.heap.size:=hbx.lt)|(at_builtin;refine wpList_row_appends rfl _ _ rfl (w.heap.size+1) g3 q3 c3 _ rfl hr _ nm rfl (HN.out _ HBN.out) HNK.out (by omega) (by omega) hz q4 HQ_4.out ?_;intro g4 c4 w4 hrow hg;have HB4:=hid (HBN.out.grown hg HBN.out.size (fun j e=>by cases e;omega));have HX4:=hid (TyBox.grown hbx hg (by omega));have HR4:=hid hrow;have HZ4:Hid (w.heap.size+1≤w4.heap.size):=hid HX4.out.lt;clear hrow hg hr hz hgl hbx HBN x0 x1 x2 x3 x4;obtain⟨⟨x0,x1,x2,x3,x4⟩,-⟩:=five HX4.out))
    go_wp2_with fail
    refine(HQ2.out _).mono ?_
    rintro e w5 ⟨rfl,hb⟩
    have HB5:=hid (below_step HB4.out hb)
    have HX5:=hid (HX4.out.below hb)
    have HR5:=hid (HR4.out.below hb)
    have HZ5:Hid (w.heap.size+1≤w5.heap.size):=hid HX5.out.lt
    clear hb x0 x1 x2 x3 x4
    obtain⟨⟨x0,x1,x2,x3,x4⟩,-⟩:=five HX5.out
    obtain⟨q6,hq6⟩:∃q,q=q4+1:=⟨_,rfl⟩
    have hqb6:q6≤1048579:=by omega
    have hqi6:0<q6:=by omega
    have HQ_6:=hid hq6
    clear hq6
    have hr:=HR5.out
    have hz:=HZ5.out
    have hgl:w.heap.size+1≤g4:=(hr.lt rfl).1
    go_wp2_with (first|fail|(at_builtin;refine wpList_row_append rfl _ _ rfl (w.heap.size+1) g4 q4 c4 _ rfl hr _ rfl (by omega) hz q6 HQ_6.out ?_;intro g6 c6 w6 hrow hg;have HB6:=hid ((below_al HB5.out (.cells #[.string (quoteS ph)] 9)).grown hg (below_al HB5.out (.cells #[.string (quoteS ph)] 9)).size (fun j e=>by cases e;omega));have HX6:=hid (TyBox.grown (TyBox.below HX5.out (below_al (Below.refl _ _) (.cells #[.string (quoteS ph)] 9))) hg (by omega));have HR6:=hid hrow;have HZ6:Hid (w.heap.size+1≤w6.heap.size):=hid HX6.out.lt;clear hrow hg hr hz hgl x0 x1 x2 x3 x4;obtain⟨⟨x0,x1,x2,x3,x4⟩,-⟩:=five HX6.out))
    have HLF:=hid (HLEAF.out ([wd]++ [F]++nm++ [(quoteS ph)]) _ _ _ (HRO.out hn0) qtL_nil (qtL_one qe) (by simp))
    have HJL:=hid (HL1.out HLF.out)
    have hr:=HR6.out
    have hln:([wd]++ [F]++nm++ [(quoteS ph)]).length=q6:=(hr.cap').symm
    have hJ:=Tryz.strings_Join g6 0 c6 ([wd]++ [F]++nm++ [(quoteS ph)]) ⟨#[32]⟩ w6 (fun j x hx=>by
     obtain⟨hj,rfl⟩:=List.getElem?_eq_some_iff.1 hx
     rw [Nat.zero_add];exact hr.cell hj) (hr.lt rfl).2 (by have:=HJL.out.2;omega) (by have:=hr.cap;omega) (Nat.le_trans HJL.out.1 (by omega))
    rw [hln]at hJ
    obtain⟨J,hJJ⟩:∃J,J=joinC 32 ([wd]++ [F]++nm++ [(quoteS ph)]):=⟨_,rfl⟩
    have HJJ:=hid hJJ
    have HJ:Hid (Calls Tryz.prog 35 #[.slice (some ⟨g6,0,none⟩) q6 c6,.string ⟨#[32]⟩] w6 fun e w'=>e=.returned (.string J)∧Below w6.heap.size w6 w'):=hid (by rw [hJJ];exact hJ)
    clear hJ hln hr hJJ
    go_wp2_with fail
    refine HJ.out.mono ?_
    rintro e wz ⟨rfl,hb⟩
    have HBZ:=hid (below_step HB6.out hb)
    clear hb x0 x1 x2 x3 x4
    go_wp2
    go_ret
    exact⟨(by rw [HLF.out,←HJJ.out];first|done|rfl),HBZ.out⟩
  ·skip
   rcases em_cases ph with hq|⟨qa,qb,qc,qe⟩
   ·subst hq
    go_enter Tryz.func10,Tryz.ntmps10
    go_wp2_with fail
    refine(HI.out _ HB0.out).mono ?_
    rintro e w1 ⟨rfl,hb1⟩
    have HB1:=hid (below_step HB0.out hb1)
    have HX1:=hid (HX0.out w1 hb1)
    have HZ1:Hid (w.heap.size+1≤w1.heap.size):=hid (by have:=hb1.size;simpa using this)
    obtain⟨⟨x0,x1,x2,x3,x4⟩,-⟩:=five HX1.out
    have hlt1:w.heap.size<w1.heap.size:=HX1.out.lt
    have tc:=HTT.out _ HB1.out
    clear hb1
    go_wp2_with fail
    refine(HR.out _ (below_al HB1.out (.cells #[.string wd] 9))).mono ?_
    rintro e w2 ⟨rfl,hb⟩
    have HB2:=hid (below_step (below_al HB1.out (.cells #[.string wd] 9)) hb)
    have HX2:=hid (TyBox.below (TyBox.below HX1.out (below_al (Below.refl _ _) (.cells #[.string wd] 9))) hb)
    have HR2:=hid (Row.below (row_one (B:=w.heap.size+1) (heap_alloc_new w1 (.cells #[.string wd] 9)) HZ1.out) hb)
    have HZ2:Hid (w.heap.size+1≤w2.heap.size):=hid HX2.out.lt
    clear hb x0 x1 x2 x3 x4 tc
    obtain⟨⟨x0,x1,x2,x3,x4⟩,-⟩:=five HX2.out
    obtain⟨q3,hq3⟩:∃q,q=1+1:=⟨_,rfl⟩
    have hqb3:q3≤2:=by omega
    have hqi3:0<q3:=by omega
    have HQ_3:=hid hq3
    clear hq3
    have hr:=HR2.out
    have hz:=HZ2.out
    have hgl:w.heap.size+1≤w1.heap.size:=(hr.lt rfl).1
    go_wp2_with (first|fail|(at_builtin;refine wpList_row_append rfl _ _ rfl (w.heap.size+1) w1.heap.size 1 1 _ rfl hr _ rfl (by omega) hz q3 HQ_3.out ?_;intro g3 c3 w3 hrow hg;have HB3:=hid ((below_al HB2.out (.cells #[.string F] 9)).grown hg (below_al HB2.out (.cells #[.string F] 9)).size (fun j e=>by cases e;omega));have HX3:=hid (TyBox.grown (TyBox.below HX2.out (below_al (Below.refl _ _) (.cells #[.string F] 9))) hg (by omega));have HR3:=hid hrow;have HZ3:Hid (w.heap.size+1≤w3.heap.size):=hid HX3.out.lt;clear hrow hg hr hz hgl x0 x1 x2 x3 x4;obtain⟨⟨x0,x1,x2,x3,x4⟩,-⟩:=five HX3.out;obtain⟨q4,hq4⟩:∃q,q=q3+nm.length:=⟨_,rfl⟩;have hqb4:q4≤1048578:=(by have:=HNM.out;have:=HMN.out;omega);have hqi4:0<q4:=(by omega);have HQ_4:=hid hq4;clear hq4;have hnl:nm.length≤1048576:=(by have:=HNM.out;have:=HMN.out;omega);have hr:=HR3.out;have hbx:=HX3.out;have HBN:=hid HB3.out;have hgl:w.heap.size+1≤g3:=(hr.lt rfl).1;have hz:w.heap.size+1≤w3.heap.size:=hbx.lt)|(at_builtin;refine wpList_row_appends rfl _ _ rfl (w.heap.size+1) g3 q3 c3 _ rfl hr _ nm rfl (HN.out _ HBN.out) HNK.out (by omega) (by omega) hz q4 HQ_4.out ?_;intro g4 c4 w4 hrow hg;have HB4:=hid (HBN.out.grown hg HBN.out.size (fun j e=>by cases e;omega));have HX4:=hid (TyBox.grown hbx hg (by omega));have HR4:=hid hrow;have HZ4:Hid (w.heap.size+1≤w4.heap.size):=hid HX4.out.lt;clear hrow hg hr hz hgl hbx HBN x0 x1 x2 x3 x4;obtain⟨⟨x0,x1,x2,x3,x4⟩,-⟩:=five HX4.out))
    go_wp2_with fail
    refine(HQ1.out _).mono ?_
    rintro e w5 ⟨rfl,hb⟩
    have HB5:=hid (below_step HB4.out hb)
    have HX5:=hid (HX4.out.below hb)
    have HR5:=hid (HR4.out.below hb)
    have HZ5:Hid (w.heap.size+1≤w5.heap.size):=hid HX5.out.lt
    clear hb x0 x1 x2 x3 x4
    obtain⟨⟨x0,x1,x2,x3,x4⟩,-⟩:=five HX5.out
    obtain⟨q6,hq6⟩:∃q,q=q4+1:=⟨_,rfl⟩
    have hqb6:q6≤1048579:=by omega
    have hqi6:0<q6:=by omega
    have HQ_6:=hid hq6
    clear hq6
    have hr:=HR5.out
    have hz:=HZ5.out
    have hgl:w.heap.size+1≤g4:=(hr.lt rfl).1
    go_wp2_with (first|fail|(at_builtin;refine wpList_row_append rfl _ _ rfl (w.heap.size+1) g4 q4 c4 _ rfl hr _ rfl (by omega) hz q6 HQ_6.out ?_;intro g6 c6 w6 hrow hg;have HB6:=hid ((below_al HB5.out (.cells #[.string (quoteS pt)] 9)).grown hg (below_al HB5.out (.cells #[.string (quoteS pt)] 9)).size (fun j e=>by cases e;omega));have HX6:=hid (TyBox.grown (TyBox.below HX5.out (below_al (Below.refl _ _) (.cells #[.string (quoteS pt)] 9))) hg (by omega));have HR6:=hid hrow;have HZ6:Hid (w.heap.size+1≤w6.heap.size):=hid HX6.out.lt;clear hrow hg hr hz hgl x0 x1 x2 x3 x4;obtain⟨⟨x0,x1,x2,x3,x4⟩,-⟩:=five HX6.out))
    have HLF:=hid (HLEAF.out ([wd]++ [F]++nm++ [(quoteS pt)]) _ _ _ (HRO.out hn0) (qtL_one pe) qtL_nil (by simp))
    have HJL:=hid (HL1.out HLF.out)
    have hr:=HR6.out
    have hln:([wd]++ [F]++nm++ [(quoteS pt)]).length=q6:=(hr.cap').symm
    have hJ:=Tryz.strings_Join g6 0 c6 ([wd]++ [F]++nm++ [(quoteS pt)]) ⟨#[32]⟩ w6 (fun j x hx=>by
     obtain⟨hj,rfl⟩:=List.getElem?_eq_some_iff.1 hx
     rw [Nat.zero_add];exact hr.cell hj) (hr.lt rfl).2 (by have:=HJL.out.2;omega) (by have:=hr.cap;omega) (Nat.le_trans HJL.out.1 (by omega))
    rw [hln]at hJ
    obtain⟨J,hJJ⟩:∃J,J=joinC 32 ([wd]++ [F]++nm++ [(quoteS pt)]):=⟨_,rfl⟩
    have HJJ:=hid hJJ
    have HJ:Hid (Calls Tryz.prog 35 #[.slice (some ⟨g6,0,none⟩) q6 c6,.string ⟨#[32]⟩] w6 fun e w'=>e=.returned (.string J)∧Below w6.heap.size w6 w'):=hid (by rw [hJJ];exact hJ)
    clear hJ hln hr hJJ
    go_wp2_with fail
    refine HJ.out.mono ?_
    rintro e wz ⟨rfl,hb⟩
    have HBZ:=hid (below_step HB6.out hb)
    clear hb x0 x1 x2 x3 x4
    go_wp2
    go_ret
    exact⟨(by rw [HLF.out,←HJJ.out];first|done|rfl),HBZ.out⟩
   ·skip
    go_enter Tryz.func10,Tryz.ntmps10
    go_wp2_with fail
    refine(HI.out _ HB0.out).mono ?_
    rintro e w1 ⟨rfl,hb1⟩
    have HB1:=hid (below_step HB0.out hb1)
    have HX1:=hid (HX0.out w1 hb1)
    have HZ1:Hid (w.heap.size+1≤w1.heap.size):=hid (by have:=hb1.size;simpa using this)
    obtain⟨⟨x0,x1,x2,x3,x4⟩,-⟩:=five HX1.out
    have hlt1:w.heap.size<w1.heap.size:=HX1.out.lt
    have tc:=HTT.out _ HB1.out
    clear hb1
    go_wp2_with fail
    refine(HR.out _ (below_al HB1.out (.cells #[.string wd] 9))).mono ?_
    rintro e w2 ⟨rfl,hb⟩
    have HB2:=hid (below_step (below_al HB1.out (.cells #[.string wd] 9)) hb)
    have HX2:=hid (TyBox.below (TyBox.below HX1.out (below_al (Below.refl _ _) (.cells #[.string wd] 9))) hb)
    have HR2:=hid (Row.below (row_one (B:=w.heap.size+1) (heap_alloc_new w1 (.cells #[.string wd] 9)) HZ1.out) hb)
    have HZ2:Hid (w.heap.size+1≤w2.heap.size):=hid HX2.out.lt
    clear hb x0 x1 x2 x3 x4 tc
    obtain⟨⟨x0,x1,x2,x3,x4⟩,-⟩:=five HX2.out
    obtain⟨q3,hq3⟩:∃q,q=1+1:=⟨_,rfl⟩
    have hqb3:q3≤2:=by omega
    have hqi3:0<q3:=by omega
    have HQ_3:=hid hq3
    clear hq3
    have hr:=HR2.out
    have hz:=HZ2.out
    have hgl:w.heap.size+1≤w1.heap.size:=(hr.lt rfl).1
    go_wp2_with (first|fail|(at_builtin;refine wpList_row_append rfl _ _ rfl (w.heap.size+1) w1.heap.size 1 1 _ rfl hr _ rfl (by omega) hz q3 HQ_3.out ?_;intro g3 c3 w3 hrow hg;have HB3:=hid ((below_al HB2.out (.cells #[.string F] 9)).grown hg (below_al HB2.out (.cells #[.string F] 9)).size (fun j e=>by cases e;omega));have HX3:=hid (TyBox.grown (TyBox.below HX2.out (below_al (Below.refl _ _) (.cells #[.string F] 9))) hg (by omega));have HR3:=hid hrow;have HZ3:Hid (w.heap.size+1≤w3.heap.size):=hid HX3.out.lt;clear hrow hg hr hz hgl x0 x1 x2 x3 x4;obtain⟨⟨x0,x1,x2,x3,x4⟩,-⟩:=five HX3.out;obtain⟨q4,hq4⟩:∃q,q=q3+nm.length:=⟨_,rfl⟩;have hqb4:q4≤1048578:=(by have:=HNM.out;have:=HMN.out;omega);have hqi4:0<q4:=(by omega);have HQ_4:=hid hq4;clear hq4;have hnl:nm.length≤1048576:=(by have:=HNM.out;have:=HMN.out;omega);have hr:=HR3.out;have hbx:=HX3.out;have HBN:=hid HB3.out;have hgl:w.heap.size+1≤g3:=(hr.lt rfl).1;have hz:w.heap.size+1≤w3.heap.size:=hbx.lt)|(at_builtin;refine wpList_row_appends rfl _ _ rfl (w.heap.size+1) g3 q3 c3 _ rfl hr _ nm rfl (HN.out _ HBN.out) HNK.out (by omega) (by omega) hz q4 HQ_4.out ?_;intro g4 c4 w4 hrow hg;have HB4:=hid (HBN.out.grown hg HBN.out.size (fun j e=>by cases e;omega));have HX4:=hid (TyBox.grown hbx hg (by omega));have HR4:=hid hrow;have HZ4:Hid (w.heap.size+1≤w4.heap.size):=hid HX4.out.lt;clear hrow hg hr hz hgl hbx HBN x0 x1 x2 x3 x4;obtain⟨⟨x0,x1,x2,x3,x4⟩,-⟩:=five HX4.out))
    go_wp2_with fail
    refine(HQ1.out _).mono ?_
    rintro e w5 ⟨rfl,hb⟩
    have HB5:=hid (below_step HB4.out hb)
    have HX5:=hid (HX4.out.below hb)
    have HR5:=hid (HR4.out.below hb)
    have HZ5:Hid (w.heap.size+1≤w5.heap.size):=hid HX5.out.lt
    clear hb x0 x1 x2 x3 x4
    obtain⟨⟨x0,x1,x2,x3,x4⟩,-⟩:=five HX5.out
    obtain⟨q6,hq6⟩:∃q,q=q4+1:=⟨_,rfl⟩
    have hqb6:q6≤1048579:=by omega
    have hqi6:0<q6:=by omega
    have HQ_6:=hid hq6
    clear hq6
    have hr:=HR5.out
    have hz:=HZ5.out
    have hgl:w.heap.size+1≤g4:=(hr.lt rfl).1
    go_wp2_with (first|fail|(at_builtin;refine wpList_row_append rfl _ _ rfl (w.heap.size+1) g4 q4 c4 _ rfl hr _ rfl (by omega) hz q6 HQ_6.out ?_;intro g6 c6 w6 hrow hg;have HB6:=hid ((below_al HB5.out (.cells #[.string (quoteS pt)] 9)).grown hg (below_al HB5.out (.cells #[.string (quoteS pt)] 9)).size (fun j e=>by cases e;omega));have HX6:=hid (TyBox.grown (TyBox.below HX5.out (below_al (Below.refl _ _) (.cells #[.string (quoteS pt)] 9))) hg (by omega));have HR6:=hid hrow;have HZ6:Hid (w.heap.size+1≤w6.heap.size):=hid HX6.out.lt;clear hrow hg hr hz hgl x0 x1 x2 x3 x4;obtain⟨⟨x0,x1,x2,x3,x4⟩,-⟩:=five HX6.out))
    go_wp2_with fail
    refine(HQ2.out _).mono ?_
    rintro e w7 ⟨rfl,hb⟩
    have HB7:=hid (below_step HB6.out hb)
    have HX7:=hid (HX6.out.below hb)
    have HR7:=hid (HR6.out.below hb)
    have HZ7:Hid (w.heap.size+1≤w7.heap.size):=hid HX7.out.lt
    clear hb x0 x1 x2 x3 x4
    obtain⟨⟨x0,x1,x2,x3,x4⟩,-⟩:=five HX7.out
    obtain⟨q8,hq8⟩:∃q,q=q6+1:=⟨_,rfl⟩
    have hqb8:q8≤1048580:=by omega
    have hqi8:0<q8:=by omega
    have HQ_8:=hid hq8
    clear hq8
    have hr:=HR7.out
    have hz:=HZ7.out
    have hgl:w.heap.size+1≤g6:=(hr.lt rfl).1
    go_wp2_with (first|fail|(at_builtin;refine wpList_row_append rfl _ _ rfl (w.heap.size+1) g6 q6 c6 _ rfl hr _ rfl (by omega) hz q8 HQ_8.out ?_;intro g8 c8 w8 hrow hg;have HB8:=hid ((below_al HB7.out (.cells #[.string (quoteS ph)] 9)).grown hg (below_al HB7.out (.cells #[.string (quoteS ph)] 9)).size (fun j e=>by cases e;omega));have HX8:=hid (TyBox.grown (TyBox.below HX7.out (below_al (Below.refl _ _) (.cells #[.string (quoteS ph)] 9))) hg (by omega));have HR8:=hid hrow;have HZ8:Hid (w.heap.size+1≤w8.heap.size):=hid HX8.out.lt;clear hrow hg hr hz hgl x0 x1 x2 x3 x4;obtain⟨⟨x0,x1,x2,x3,x4⟩,-⟩:=five HX8.out))
    have HLF:=hid (HLEAF.out ([wd]++ [F]++nm++ [(quoteS pt)]++ [(quoteS ph)]) _ _ _ (HRO.out hn0) (qtL_one pe) (qtL_one qe) (by simp))
    have HJL:=hid (HL1.out HLF.out)
    have hr:=HR8.out
    have hln:([wd]++ [F]++nm++ [(quoteS pt)]++ [(quoteS ph)]).length=q8:=(hr.cap').symm
    have hJ:=Tryz.strings_Join g8 0 c8 ([wd]++ [F]++nm++ [(quoteS pt)]++ [(quoteS ph)]) ⟨#[32]⟩ w8 (fun j x hx=>by
     obtain⟨hj,rfl⟩:=List.getElem?_eq_some_iff.1 hx
     rw [Nat.zero_add];exact hr.cell hj) (hr.lt rfl).2 (by have:=HJL.out.2;omega) (by have:=hr.cap;omega) (Nat.le_trans HJL.out.1 (by omega))
    rw [hln]at hJ
    obtain⟨J,hJJ⟩:∃J,J=joinC 32 ([wd]++ [F]++nm++ [(quoteS pt)]++ [(quoteS ph)]):=⟨_,rfl⟩
    have HJJ:=hid hJJ
    have HJ:Hid (Calls Tryz.prog 35 #[.slice (some ⟨g8,0,none⟩) q8 c8,.string ⟨#[32]⟩] w8 fun e w'=>e=.returned (.string J)∧Below w8.heap.size w8 w'):=hid (by rw [hJJ];exact hJ)
    clear hJ hln hr hJJ
    go_wp2_with fail
    refine HJ.out.mono ?_
    rintro e wz ⟨rfl,hb⟩
    have HBZ:=hid (below_step HB8.out hb)
    clear hb x0 x1 x2 x3 x4
    go_wp2
    go_ret
    exact⟨(by rw [HLF.out,←HJJ.out];first|done|rfl),HBZ.out⟩
end
section
open Go.RowKit
end
end Go.Proofs.YtecladbckadijaaGreatDoor
