/- MERGED for a claim. -/
import Derived.Test.YtecladbckadijaaGreatDoorTree
import Derived.Lib.SlicesCompact
set_option linter.unusedVariables false
set_option linter.unusedSimpArgs false
set_option maxRecDepth 100000
set_option maxHeartbeats 16000000
namespace Go.Proofs.YtecladbckadijaaGreatDoor
open Go.Lib (hid)
section
open Go.RowKit NumP

theorem digit_byte (q:Nat):(u8v (UInt8.ofNat (48+q % 10)))=.int .u8 (48+(q:Int) % 10):=by
 unfold u8v;congr 1;simp only [UInt8.toNat_ofNat'];omega
theorem sFmt_step {q m:Nat}{l:List UInt8}(hq:0<q)(h:dec q++l=dec m):
  (q / 10=0→UInt8.ofNat (48+q % 10)::l=dec m)∧(0<q / 10→dec (q / 10)++UInt8.ofNat (48+q % 10)::l=dec m):=by
 by_cases hs:q<10
 ·rw [dec_small hs]at h
  rw [Nat.mod_eq_of_lt hs]
  exact⟨fun _=>h,fun h'=>by omega⟩
 ·rw [dec_big (by omega),List.append_assoc]at h
  exact⟨fun h'=>by omega,fun _=>h⟩
def SF (m q:Nat)(l:List UInt8):Prop:=(q=0→l=dec m)∧(0<q→dec q++l=dec m)
theorem conv_one (wr:World)(b:UInt8):(convert 22 9 (.slice (some ⟨wr.heap.size,0,none⟩) 1 1)).run Tryz.prog (wr.alloc (.cells #[u8v b] 5))=.ok (.string ⟨#[b]⟩) (wr.alloc (.cells #[u8v b] 5)):=by
 have h:=run_convert_bytes_back (P:=Tryz.prog) (wr.alloc (.cells #[u8v b] 5)) 22 9 5 ⟨wr.heap.size,0,none⟩ 1 [b] Tryz.underlying22 Tryz.underlying5 Tryz.underlying9 (fun j hj=>by
  have hj0:j=0:=by simpa using hj
  subst hj0
  simp [go_sem,u8v,Addr.add])
 exact h
theorem SF_step {q m:Nat}{l:List UInt8}(hm:m<18446744073709551616)(hq:0<q)(h:SF m q l):SF m (q / 10) (UInt8.ofNat (48+q % 10)::l)∧(UInt8.ofNat (48+q % 10)::l).length≤20:=by
 have h':=sFmt_step hq (h.2 hq)
 refine⟨⟨h'.1,h'.2⟩,?_⟩
 have e:=congrArg List.length (h.2 hq)
 have:=dec_length m
 have:=ndig_le20 hm
 have:=dec_length q
 have:=ndig_pos q
 simp only [List.length_append]at e
 simp only [List.length_cons]
 omega
theorem str_cons (b:UInt8)(l:List UInt8):(ByteArray.mk #[b]++ByteArray.mk l.toArray)=ByteArray.mk (b::l).toArray:=ByteArray.mk_append_mk [b] l
theorem val_str {a b:ByteArray}(h:a=b):Value.string a=Value.string b:=by rw [h]
end
section
open Go.RowKit

structure PatX where
 op:Int
 text:ByteArray
structure PatR where
 op:Int
 text:ByteArray
 kv:Value
def PatR.enc (r:PatR):List Value:=[.int .i64 r.op,.string r.text,r.kv]
def patK:Kd PatX where
 ρ:=PatR
 enc:=PatR.enc
 z:=3
 E:=92
 kv:=PatR.kv
 hz:=fun _=>rfl
 rd:=fun _ r x=>r.op=x.op∧r.text=x.text
 own:=fun _ _ r x S=>(r.op=x.op∧r.text=x.text)∧∀b,¬S b
 rd_below:=fun h _=>h
 own_rd:=fun h=>h.1
 own_frame:=fun h _=>h
 own_lt:=fun h b hb=>absurd hb (h.2 b)
 own_mono:=fun h _=>h
abbrev Pat:=Tr PatX
def Pk (w:World)(p:Addr)(r:PatR):Prop:=w.cell? p=some (.int .i64 r.op)∧w.cell? ⟨p.block,p.off+1,none⟩=some (.string r.text)∧w.cell? ⟨p.block,p.off+2,none⟩=some r.kv
theorem Pk.below {w w':World}{p:Addr}{r:PatR}(h:Pk w p r)(hb:Below w.heap.size w w')(hp:p.block<w.heap.size):Pk w' p r:=
 ⟨by rw [hb.cell hp];exact h.1,by rw [hb.cell (p:=⟨p.block,p.off+1,none⟩) hp];exact h.2.1,by rw [hb.cell (p:=⟨p.block,p.off+2,none⟩) hp];exact h.2.2⟩
theorem HasP.pk {w:World}{A:Option Addr}{R:List PatR}(h:∀i (h:i<R.length),∃a,A=some a∧a.block<w.heap.size∧∀j x,(R[i].enc)[j]? =some x→w.cell? ((a.add (i*3)).add j)=some x)(i:Nat)(hi:i<R.length):
  ∃a,A=some a∧(a.add (i*3)).block<w.heap.size∧Pk w (a.add (i*3)) R[i]:=by
 obtain⟨a,ha,hb,hc⟩:=h i hi
 exact⟨a,ha,by rw [addr_blk];exact hb,hc 0 _ rfl,hc 1 _ rfl,hc 2 _ rfl⟩
end
section
open Go.RowKit

def pcB (c:UInt8):Bool:=nbB c || c==95 || c==46
def betw (a b:UInt8):List UInt8:=(List.range (b.toNat-a.toNat+1)).map fun i=>UInt8.ofNat (a.toNat+i)
def spanL:List UInt8→Option (List UInt8×List UInt8)
 | []=>none
 | c :: r => if pcB c = true then (match r with
   | []=>some ([c],[])
   | t :: r' => if t = 126 then (match r' with
     | []=>none
     | d::r''=>if pcB d=true∧c.toNat≤d.toNat then some (betw c d,r'')else none)
    else some ([c],t::r'))else none
def spansL:Nat→List UInt8→List UInt8×List UInt8
 | 0,l=>([],l)
 | m + 1, l => match spanL l with
  | none=>([],l)
  | some (b,r)=>(b++(spansL m r).1,(spansL m r).2)
def clsL (l:List UInt8):List UInt8:=((List.range 256).map UInt8.ofNat).filter fun c=>l.contains c
def charsP (l:List UInt8):Pat:=.mk ⟨1,⟨l.toArray⟩⟩ []
def opP (op:Int)(kids:List Pat):Pat:=.mk ⟨op,⟨#[]⟩⟩ kids
def joinP (op:Int):List Pat→Pat
 | [p]=>p
 | l=>opP op l
def anyL:List UInt8:=(List.range 95).map fun i=>UInt8.ofNat (32+i)
def classL (l:List UInt8):Option (Pat×List UInt8):=match (spansL l.length l).2 with
 | []=>none
 | c::r=>if c=93∧(spansL l.length l).1≠[]then some (charsP (clsL (spansL l.length l).1),r)else none
def atomL (alt:List UInt8→Pat×List UInt8):List UInt8→Option (Pat×List UInt8)
 | []=>none
 | c :: r =>
  if c=40 then(match (alt r).2 with
   | []=>none
   | d::r'=>if d=41 then some ((alt r).1,r')else none)
  else if c=91 then classL r
  else if c=46 then some (charsP anyL,r)
  else if nbB c=true then some (charsP [c],r)
  else none
def repT (p:Pat):List UInt8→Pat×List UInt8
 | []=>(p,[])
 | c::r=>if c=42 then(opP 4 [p],r)else if c=63 then(opP 5 [p],r)else if c=43 then(opP 2 [p,opP 4 [p]],r)else(p,c::r)
def repL (A:List UInt8→Option (Pat×List UInt8))(l:List UInt8):Option (Pat×List UInt8):=(A l).map fun x=>repT x.1 x.2
def seqL (A:List UInt8→Option (Pat×List UInt8)):Nat→List UInt8→List Pat×List UInt8
 | 0,l=>([],l)
 | m + 1, l => match repL A l with
  | none=>([],l)
  | some (p,r)=>(p::(seqL A m r).1,(seqL A m r).2)
def seqP (A:List UInt8→Option (Pat×List UInt8))(l:List UInt8):Pat×List UInt8:=(joinP 2 (seqL A l.length l).1,(seqL A l.length l).2)
def altL (A:List UInt8→Option (Pat×List UInt8)):Nat→List UInt8→List Pat×List UInt8
 | 0,l=>([(seqP A l).1],(seqP A l).2)
 | m + 1, l => match (seqP A l).2 with
  | []=>([(seqP A l).1],[])
  | c::r=>if c=124 then((seqP A l).1::(altL A m r).1,(altL A m r).2)else([(seqP A l).1],c::r)
def altP (A:List UInt8→Option (Pat×List UInt8))(l:List UInt8):Pat×List UInt8:=(joinP 3 (altL A l.length l).1,(altL A l.length l).2)
def atomF:Nat→List UInt8→Option (Pat×List UInt8)
 | 0,_=>none
 | n+1,l=>atomL (altP (atomF n)) l
def patS (l:List UInt8):Option Pat:=if 30<l.length then none else if (altP (atomF l.length) l).2=[]then some (altP (atomF l.length) l).1 else none
def Suf (l r:List UInt8):Prop:=∃k,k≤l.length∧r=l.drop k
theorem Suf.refl (l:List UInt8):Suf l l:=⟨0,by omega,rfl⟩
theorem Suf.trans {l r t:List UInt8}(h:Suf l r)(h':Suf r t):Suf l t:=by
 obtain⟨k,hk,rfl⟩:=h
 obtain⟨j,hj,rfl⟩:=h'
 rw [List.length_drop]at hj
 exact⟨k+j,by omega,by rw [List.drop_drop]⟩
theorem Suf.cons (c:UInt8)(r:List UInt8):Suf (c::r) r:=⟨1,by simp,rfl⟩
theorem Suf.len {l r:List UInt8}(h:Suf l r):r.length≤l.length:=by
 obtain⟨k,hk,rfl⟩:=h
 rw [List.length_drop];omega
theorem Suf.drop {l r:List UInt8}(h:Suf l r):r=l.drop (l.length-r.length):=by
 obtain⟨k,hk,rfl⟩:=h
 rw [List.length_drop,show l.length-(l.length-k)=k by omega]
theorem spanL_suf {l b r:List UInt8}(h:spanL l=some (b,r)):Suf l r∧r.length<l.length∧b≠[]:=by
 unfold spanL at h
 split at h
 ·cases h
 ·rename_i c r0
  split at h
  ·split at h
   ·cases h;exact⟨Suf.cons _ _,by simp,by simp⟩
   ·rename_i t r'
    split at h
    ·split at h
     ·cases h
     ·split at h
      ·cases h
       exact⟨((Suf.cons _ _).trans (Suf.cons _ _)).trans (Suf.cons _ _),by simp;omega,by unfold betw;simp⟩
      ·cases h
    ·cases h;exact⟨Suf.cons _ _,by simp,by simp⟩
  ·cases h
theorem spansL_suf:∀(m:Nat) (l:List UInt8),Suf l (spansL m l).2
 | 0,l=>Suf.refl l
 | m + 1, l => by
  rw [spansL]
  split
  ·exact Suf.refl l
  ·rename_i b r h
   exact(spanL_suf h).1.trans (spansL_suf m r)
theorem spansL_more:∀(m m':Nat) (l:List UInt8),l.length≤m→l.length≤m'→spansL m l=spansL m' l
 | 0, m', l, h, _ => by
  obtain rfl:=List.length_eq_zero_iff.1 (Nat.le_zero.1 h)
  cases m'<;>rfl
 | m + 1, 0, l, _, h => by
  obtain rfl:=List.length_eq_zero_iff.1 (Nat.le_zero.1 h)
  rfl
 | m + 1, m' + 1, l, h, h' => by
  rw [spansL,spansL]
  split
  ·rfl
  ·rename_i b r e
   have:=(spanL_suf e).2.1
   rw [spansL_more m m' r (by omega) (by omega)]
theorem classL_suf {l:List UInt8}{p:Pat}{r:List UInt8}(h:classL l=some (p,r)):Suf l r:=by
 unfold classL at h
 have hs:=spansL_suf l.length l
 split at h
 ·cases h
 ·rename_i c r0 e
  split at h
  ·cases h;rw [e]at hs;exact hs.trans (Suf.cons _ _)
  ·cases h
def Sh (A:List UInt8→Option (Pat×List UInt8)):Prop:=∀l p r,A l=some (p,r)→Suf l r∧r.length<l.length
theorem repT_suf (p:Pat)(l:List UInt8):Suf l (repT p l).2:=by
 unfold repT
 split
 ·exact Suf.refl _
 ·split
  ·exact Suf.cons _ _
  ·split
   ·exact Suf.cons _ _
   ·split
    ·exact Suf.cons _ _
    ·exact Suf.refl _
theorem repL_sh {A:List UInt8→Option (Pat×List UInt8)}(h:Sh A):Sh (repL A):=by
 intro l p r e
 unfold repL at e
 cases hA:A l with
 | none=>rw [hA]at e;cases e
 | some x =>
  obtain⟨q,t⟩:=x
  rw [hA]at e
  have h1:=h l q t hA
  have h2:=repT_suf q t
  have e2:repT q t=(p,r):=Option.some.inj e
  rw [e2]at h2
  exact⟨h1.1.trans h2,Nat.lt_of_le_of_lt h2.len h1.2⟩
theorem seqL_suf {A:List UInt8→Option (Pat×List UInt8)}(h:Sh A):∀(m:Nat) (l:List UInt8),Suf l (seqL A m l).2
 | 0,l=>Suf.refl l
 | m + 1, l => by
  rw [seqL]
  split
  ·exact Suf.refl l
  ·rename_i p r e
   exact(repL_sh h l p r e).1.trans (seqL_suf h m r)
theorem seqL_more {A:List UInt8→Option (Pat×List UInt8)}(h:Sh A)(h0:A []=none):∀(m m':Nat) (l:List UInt8),l.length≤m→l.length≤m'→seqL A m l=seqL A m' l
 | 0, m', l, hm, _ => by
  obtain rfl:=List.length_eq_zero_iff.1 (Nat.le_zero.1 hm)
  cases m' with
  | zero=>rfl
  | succ m'=>rw [seqL,seqL];unfold repL;rw [h0];rfl
 | m + 1, 0, l, _, hm => by
  obtain rfl:=List.length_eq_zero_iff.1 (Nat.le_zero.1 hm)
  rw [seqL,seqL];unfold repL;rw [h0];rfl
 | m + 1, m' + 1, l, hm, hm' => by
  rw [seqL,seqL]
  split
  ·rfl
  ·rename_i p r e
   have:=(repL_sh h l p r e).2
   rw [seqL_more h h0 m m' r (by omega) (by omega)]
theorem seqP_suf {A:List UInt8→Option (Pat×List UInt8)}(h:Sh A)(l:List UInt8):Suf l (seqP A l).2:=seqL_suf h l.length l
theorem altL_suf {A:List UInt8→Option (Pat×List UInt8)}(h:Sh A):∀(m:Nat) (l:List UInt8),Suf l (altL A m l).2
 | 0,l=>seqP_suf h l
 | m + 1, l => by
  have hs:=seqP_suf h l
  rw [altL]
  split
  ·rename_i e;rw [e]at hs;exact hs
  ·rename_i c r e
   rw [e]at hs
   split
   ·exact(hs.trans (Suf.cons _ _)).trans (altL_suf h m r)
   ·exact hs
theorem altL_more {A:List UInt8→Option (Pat×List UInt8)}(h:Sh A):∀(m m':Nat) (l:List UInt8),l.length≤m→l.length≤m'→altL A m l=altL A m' l
 | 0, m', l, hm, _ => by
  obtain rfl:=List.length_eq_zero_iff.1 (Nat.le_zero.1 hm)
  cases m' with
  | zero=>rfl
  | succ m' =>
   have hs:=(seqP_suf h []).len
   have e:(seqP A []).2=[]:=List.length_eq_zero_iff.1 (by simpa using hs)
   rw [altL,altL,e]
 | m + 1, 0, l, _, hm => by
  obtain rfl:=List.length_eq_zero_iff.1 (Nat.le_zero.1 hm)
  have hs:=(seqP_suf h []).len
  have e:(seqP A []).2=[]:=List.length_eq_zero_iff.1 (by simpa using hs)
  rw [altL,altL,e]
 | m + 1, m' + 1, l, hm, hm' => by
  have hs:=(seqP_suf h l).len
  rw [altL,altL]
  split
  ·rfl
  ·rename_i c r e
   rw [e,List.length_cons]at hs
   rw [altL_more h m m' r (by omega) (by omega)]
theorem altP_suf {A:List UInt8→Option (Pat×List UInt8)}(h:Sh A)(l:List UInt8):Suf l (altP A l).2:=altL_suf h l.length l
theorem atomL_sh {alt:List UInt8→Pat×List UInt8}(h:∀l,Suf l (alt l).2):Sh (atomL alt):=by
 intro l p r e
 unfold atomL at e
 split at e
 ·cases e
 ·rename_i c t
  have key:Suf t r→Suf (c::t) r∧r.length<(c::t).length:=fun hs=>⟨(Suf.cons _ _).trans hs,by have:=hs.len;rw [List.length_cons];omega⟩
  split at e
  ·have hs:=h t
   split at e
   ·cases e
   ·rename_i d r' e2
    split at e
    ·cases e;rw [e2]at hs;exact key (hs.trans (Suf.cons _ _))
    ·cases e
  ·split at e
   ·exact key (classL_suf e)
   ·split at e
    ·cases e;exact key (Suf.refl _)
    ·split at e
     ·cases e;exact key (Suf.refl _)
     ·cases e
theorem atomF_sh:∀n,Sh (atomF n)
 | 0=>fun l p r e=>by cases e
 | n+1=>atomL_sh (fun l=>altP_suf (atomF_sh n) l)
theorem atomF_nil (n:Nat):atomF n []=none:=by cases n<;>rfl
end
section
open Go.RowKit Go.Sort

def numL (l:List UInt8):List Int:=l.map fun c=>(c.toNat:Int)
theorem inc_unique:∀(l m:List Int),l.Pairwise (· < ·)→m.Pairwise (· < ·)→(∀x,x∈l↔x∈m)→l=m
 | [],[],_,_,_=>rfl
 | [],y::m,_,_,h=>absurd ((h y).2 (by simp)) (by simp)
 | x::l,[],_,_,h=>absurd ((h x).1 (by simp)) (by simp)
 | x :: l, y :: m, h1, h2, h => by
  rw [List.pairwise_cons]at h1 h2
  have e:x=y:=by
   rcases List.mem_cons.1 ((h x).1 (by simp))with e|hx
   ·exact e
   ·rcases List.mem_cons.1 ((h y).2 (by simp))with e|hy
    ·exact e.symm
    ·have a:=h1.1 y hy
     have b:=h2.1 x hx
     omega
  subst e
  rw [inc_unique l m h1.2 h2.2 fun z=>?_]
  constructor
  ·intro hz
   rcases List.mem_cons.1 ((h z).1 (List.mem_cons_of_mem _ hz))with e|hz'
   ·have:=h1.1 z hz;omega
   ·exact hz'
  ·intro hz
   rcases List.mem_cons.1 ((h z).2 (List.mem_cons_of_mem _ hz))with e|hz'
   ·have:=h2.1 z hz;omega
   ·exact hz'
theorem asc_at {d:Array Int}(hs:SortedIn ltInt 0 d.size d){i j:Nat}(hij:i≤j)(hj:j<d.size):d[i]! ≤d[j]! :=by
 by_cases e:i=j
 ·subst e;exact Int.le_refl _
 ·have:=hs i j (Nat.zero_le _) (by omega) hj
  unfold ltInt at this
  simpa using this
theorem keeps_iff {d:Array Int}{i:Nat}:Lib.keeps d i=true↔i=0∨d[i]! ≠d[i-1]! :=by unfold Lib.keeps;simp
theorem compact_asc {d:Array Int}(hs:SortedIn ltInt 0 d.size d):(Lib.compactUpTo d d.size).Pairwise (· < ·):=by
 unfold Lib.compactUpTo
 rw [List.pairwise_map]
 refine List.Pairwise.imp_of_mem ?_ (List.Pairwise.filter _ (List.pairwise_lt_range (n:=d.size)))
 intro i j hi hj hij
 have hj1:=(List.mem_filter.1 hj)
 have hjn:j<d.size:=List.mem_range.1 hj1.1
 have hk:=keeps_iff.1 hj1.2
 have h1:=asc_at hs (i:=i) (j:=j-1) (by omega) (by omega)
 have h2:=asc_at hs (i:=j-1) (j:=j) (by omega) hjn
 rcases hk with hk|hk
 ·omega
 ·show d[i]! < d[j]!
  omega
theorem compact_mem {d:Array Int}{x:Int}:x∈Lib.compactUpTo d d.size↔x∈d.toList:=by
 unfold Lib.compactUpTo
 rw [List.mem_map]
 constructor
 ·rintro⟨i,hi,rfl⟩
  have hin:i<d.size:=List.mem_range.1 (List.mem_filter.1 hi).1
  rw [getElem!_pos d i hin]
  simp
 ·intro hx
  obtain⟨i,hi,hix⟩:=List.getElem_of_mem hx
  have hin:i<d.size:=by simpa using hi
  have key:∀k,k<d.size→d[k]! =x→∃j,j∈(List.range d.size).filter (Lib.keeps d)∧d[j]! =x:=by
   intro k
   induction k with
   | zero=>intro h1 h2;exact⟨0,List.mem_filter.2 ⟨List.mem_range.2 h1,keeps_iff.2 (.inl rfl)⟩,h2⟩
   | succ k ih =>
    intro h1 h2
    by_cases e:d[k+1]! =d[k]!
    ·exact ih (by omega) (by rw [←e];exact h2)
    ·exact⟨k+1,List.mem_filter.2 ⟨List.mem_range.2 h1,keeps_iff.2 (.inr (by simpa using e))⟩,h2⟩
  exact key i hin (by rw [getElem!_pos d i hin,←hix];simp)
theorem cls_asc (l:List UInt8):(numL (clsL l)).Pairwise (· < ·):=by
 unfold numL clsL
 rw [List.pairwise_map]
 refine List.Pairwise.filter _ ?_
 rw [List.pairwise_map]
 refine List.Pairwise.imp_of_mem ?_ (List.pairwise_lt_range (n:=256))
 intro a b ha hb hab
 have:=List.mem_range.1 ha
 have:=List.mem_range.1 hb
 simp only [UInt8.toNat_ofNat']
 omega
theorem cls_mem {l:List UInt8}{c:UInt8}:c∈clsL l↔c∈l:=by
 unfold clsL
 rw [List.mem_filter]
 constructor
 ·intro h;simpa using h.2
 ·intro h
  refine⟨List.mem_map.2 ⟨c.toNat,List.mem_range.2 c.toNat_lt,by simp⟩,by simpa using h⟩
theorem compact_cls {l:List UInt8}{d:Array Int}(hp:d.toList.Perm (numL l))(hs:SortedIn ltInt 0 d.size d):Lib.compactUpTo d d.size=numL (clsL l):=by
 refine inc_unique _ _ (compact_asc hs) (cls_asc l) fun x=>?_
 rw [compact_mem,hp.mem_iff]
 unfold numL
 rw [List.mem_map,List.mem_map]
 constructor
 ·rintro⟨c,h1,h2⟩;exact⟨c,cls_mem.2 h1,h2⟩
 ·rintro⟨c,h1,h2⟩;exact⟨c,cls_mem.1 h1,h2⟩
end
section
open Go.RowKit Go.Sort Go.Lib

def cE (c:UInt8):List Value:=[u8v c]
theorem cE_len:∀c,(cE c).length=1:=fun _=>rfl
abbrev RowC (B:Nat)(w:World)(v:Value)(l:List UInt8):Prop:=RowR cE 1 5 B w v l
theorem numL_len (l:List UInt8):(numL l).length=l.length:=by simp [numL]
theorem RowC.holds {B g n cap:Nat}{w:World}{l:List UInt8}(h:RowC B w (.slice (some ⟨g,0,none⟩) n cap) l):Holds encB w g 0 (numL l).toArray:=by
 intro j hj
 have hj':j<l.length:=by simpa [numL]using hj
 have hc:=RowR.cell cE_len h hj' (j:=0) (x:=u8v l[j]) rfl
 have hf:=RowR.frozen h (j*1+0)
 rw [Nat.mul_one,Nat.add_zero]at hc hf
 rw [Nat.zero_add]
 refine⟨?_,hf⟩
 rw [hc,getElem!_pos _ j hj]
 simp [numL,encB,u8v]
theorem turns_put {S:Nat→Prop}{g:Nat}(hg:S g)(w:World)(m:Nat)(d:Array Int)(os:Array Obj):TurnsAt S w (sortWorld encB w g 0 m d os):=by
 unfold sortWorld
 refine⟨rfl,rfl,rfl,by simp [putRow,mapBlock,Sort.ahead],fun q hq hs=>?_⟩
 rw [heap_grow_old _ _ (by simpa [putRow,mapBlock,Sort.ahead]using hq)]
 have:g≠q:=fun e=>hs (e▸hg)
 simp [putRow,mapBlock,Sort.ahead,Array.getElem?_modify,this]
theorem turns_row {S:Nat→Prop}{g:Nat}(hg:S g)(w:World)(m:Nat)(d:Array Int):TurnsAt S w (putRow encB (Sort.ahead w m) g 0 d):=by
 refine⟨rfl,rfl,rfl,by simp [putRow,mapBlock,Sort.ahead],fun q hq hs=>?_⟩
 have:g≠q:=fun e=>hs (e▸hg)
 simp [putRow,mapBlock,Sort.ahead,Array.getElem?_modify,this]
theorem sb_turns {S:Nat→Prop}{w w':World}{g:Nat}{d:Array Int}(hg:S g)(h:SB w g 0 d w'):TurnsAt S w w':=by
 obtain⟨m,os,rfl⟩:=h
 exact turns_put hg w m d os
def Asc (w0:World)(g n:Nat)(l:List UInt8)(w':World):Prop:=∃d:Array Int,d.size=n∧d.toList.Perm (numL l)∧SortedIn ltInt 0 d.size d∧Holds encB w' g 0 d∧TurnsAt (fun q=>q=g) w0 w'
theorem len_any (n:Nat)(hn:n≤1048576)(w:World):Calls Tryz.prog 129 #[.int .u64 (n:Int)] w fun e w'=>∃k:Nat,k≤1000∧e=.returned (.int .i64 (k:Int))∧w=w':=
 (Tryz.bits_Len (n:Int) w (by omega) (by omega)).mono fun _ _ ⟨he,hw⟩=>⟨_,by
  rw [Int.toNat_natCast,bitLen_eq _ (by omega)]
  exact Nat.le_trans ((bitsLen_le_iff n 21).2 (by omega)) (by omega),he,hw.symm⟩
theorem bsort_any (B g cap n:Nat)(l:List UInt8)(w:World)(hn:n=l.length)(h:RowC B w (.slice (some ⟨g,0,none⟩) n cap) l)(hb:n≤1048576):
  Calls Tryz.prog 194 #[.slice (some ⟨g,0,none⟩) n cap] w fun e w'=>e=.returned (.tuple #[])∧Asc w g n l w':=by
 have hH:=RowC.holds h
 have hsz:(numL l).toArray.size=n:=by simp [numL,hn]
 have hg:g<w.heap.size:=(h.lt (k:=g) rfl).2
 have R:RB w g 0 (numL l).toArray:=⟨encB_one,hH,hg⟩
 have HC:Hid (∀(lim:Nat),lim≤1000→Calls Tryz.prog 197 #[.slice (some ⟨g,0,none⟩) n cap,.int .i64 ((0:Nat):Int),.int .i64 (n:Int),.int .i64 (lim:Int)] w (Srt w g 0 (numL l).toArray 0 n)):=hid fun lim hlim=>
  (Nat.strongRecOn (motive:=fun N=>PdqC n N) n (fun N ih=>pdq_of n N (by omega) ih)) g 0 cap 0 n lim _ _ w w R hsz hsz (SW.start hH) (Nat.zero_le _) (Nat.le_refl _) (.inl rfl) hlim (by omega)
 have HH:=hid hH
 have HG:=hid hg
 have HZ:=hid hsz
 have hn0:(0:Int)≤(n:Int):=by omega
 have hn9:(n:Int)≤1048576:=by omega
 have HB:=hid hb
 clear h hH R hsz hg hn
 go_enter Tryz.func194,Tryz.ntmps194
 go_wp2_with fail
 refine(len_any n HB.out _).mono ?_
 rintro e w1 ⟨k,hk,rfl,rfl⟩
 go_wp2_with (go_at_call 197;(refine(HC.out k hk).mono ?_);rintro e w2 ⟨d,rfl,hp,hs,hS⟩)
 go_end0
 refine⟨rfl,d,hp.1.trans HZ.out,?_,?_,SW.holds hS HG.out HH.out (by rw [hp.1]),sb_turns (S:=fun q=>q=g) rfl hS⟩
 ·have e1:d.extract 0 n=d:=by rw [←hp.1.trans HZ.out];simp
  have e2:(numL l).toArray.extract 0 n=(numL l).toArray:=by rw [←HZ.out];simp
  have:=hp.2.2
  rw [e1,e2]at this
  simpa using this
 ·rw [hp.1.trans HZ.out];exact hs
theorem bcompact_any (g cap n:Nat)(l:List UInt8)(w0 w:World)(h:Asc w0 g n l w)(hcap:n≤cap)(hb:n≤1048576):
  Calls Tryz.prog 195 #[.slice (some ⟨g,0,none⟩) n cap] w fun e w'=>e=.returned (.slice (some ⟨g,0,none⟩) (clsL l).length cap)∧(convert 22 9 (.slice (some ⟨g,0,none⟩) (clsL l).length cap)).run Tryz.prog w'=.ok (.string ⟨(clsL l).toArray⟩) w'∧TurnsAt (fun q=>q=g) w0 w':=by
 obtain⟨d,rfl,hp,hs,hH,hT⟩:=h
 have hc:=compact_cls hp hs
 have h1:=AnyE.slices_Compact (P:=Tryz.prog) Tryz.compactB encB encB_one (EqlAt.intD _ _ _) (NeqAt.intD _ _ _) 0 (fun w=>Tryz.zeroValue5 w) g 0 cap d w hH (by omega) hcap
 rw [hc]at h1
 refine h1.mono ?_
 rintro e w' ⟨rfl,q,rfl⟩
 refine⟨by rw [numL_len],?_,hT.trans (turns_row (S:=fun q=>q=g) rfl _ _ _)⟩
 have hle:(clsL l).length≤d.size:=by
  have:=numL_len (clsL l)
  rw [←this,←hc]
  unfold compactUpTo
  rw [List.length_map]
  exact Nat.le_trans (List.length_filter_le _ _) (by simp)
 refine run_convert_bytes_back (P:=Tryz.prog) _ 22 9 5 ⟨g,0,none⟩ cap (clsL l) Tryz.underlying22 Tryz.underlying5 Tryz.underlying9 (fun j hj=>?_)
 have hz:(numL (clsL l)++List.replicate (d.size-(numL (clsL l)).length) 0).toArray.size=d.size:=by simp [numL];omega
 have:=cell?_putRow encB (Sort.ahead w q) g 0 d _ (holds_ahead encB w q g 0 d hH) hz j (by rw [hz];omega)
 rw [addr_zero]
 rw [Nat.zero_add]at this
 rw [this]
 congr 1
 have hj2:j<(numL (clsL l)).length:=by rw [numL_len];exact hj
 rw [getElem!_pos _ j (by rw [hz];omega)]
 simp [encB,List.getElem_append_left hj2]
 simp [numL]
end
section
open Go.RowKit

theorem infoPat:(Tryz.prog.info? 92).map (fun i=>(i.zero,i.size,i.bytes))=some (some (.agg #[.int .i64 0,.string ⟨#[]⟩,.slice none 0 0]),3,48):=by kernel_rfl
abbrev RowP (B:Nat)(w:World)(v:Value)(R:List PatR):Prop:=RowR PatR.enc 3 92 B w v R
theorem wpList_pat_append {ops:Array Oper}{rest:List Oper}{o:Oper}{a:Act}{Q:Exit→Act→World→Prop}{w:World}(hgd:o.guard=none)(s x:Operand)
  (ho:o.op=.call { callee:=.builtin .append,args:=#[s,x],argTypes:=#[90,90] })
  (B g n c:Nat) (L:List PatR) (hs:a.eval s=.slice (some ⟨g,0,none⟩) n c) (hrow:RowP B w (.slice (some ⟨g,0,none⟩) n c) L)
  (yo:Int) (yt:ByteArray) (ya:Option Addr) (yn yc:Nat) (b:Nat) (hx:a.eval x=.slice (some ⟨b,0,none⟩) 1 1) (hb:b=w.heap.size) (hlen:n+1≤1048576) (hbase:B≤w.heap.size) (q:Nat) (hq:q=n+1)
  (h:∀g' c'' w',RowP B w' (.slice (some ⟨g',0,none⟩) q c'') (L++ [⟨yo,yt,.slice ya yn yc⟩])→(w.alloc (.cells #[.int .i64 yo,.string yt,.slice ya yn yc] 92)).grownBy w' (some g)→(g'=g∨w.heap.size<g')→wpList Tryz.prog ops Q rest (a.put o.dst (.slice (some ⟨g',0,none⟩) q c'')) w'):
  wpList Tryz.prog ops Q (o::rest) a (w.alloc (.cells #[.int .i64 yo,.string yt,.slice ya yn yc] 92)):=by
 obtain⟨i0,hi,hz0,hz1,hz2⟩:=info_parts infoPat
 have hnL:=RowR.cap' hrow
 subst hq
 subst hnL
 subst hb
 refine wpList_append_own_at _ hgd s x 90 ho B 92 i0 (.agg #[.int .i64 0,.string ⟨#[]⟩,.slice none 0 0]) 3 48 Tryz.underlying90 hi hz0 hz1 hz2 rfl (by decide) _ L.length (L.flatMap PatR.enc) hs (RowR.alloc hrow _) ⟨w.heap.size,0,none⟩ 1 1 [.int .i64 yo,.string yt,.slice ya yn yc] hx rfl (World.news_of_block (heap_alloc_new w _)) (by simp [Value.oneCell']) (by unfold maxLen;omega) (by omega) (Nat.le_trans hbase ((Below.refl 0 w).alloc (Nat.zero_le _) _).size) ?_
 intro v' w' h2 h3 h4 h6
 rcases h2.2 with ⟨h5,_⟩|⟨g',cap',cur,h5,_⟩
 ·exact absurd (h4.1 h5).1 (by simp)
 ·subst h5
  refine h g' cap' w' ?_ h3 ?_
  ·unfold RowP RowR
   rw [List.length_append,List.flatMap_append,List.flatMap_singleton]
   exact h2
  ·rcases h6 with h6|h6
   ·exact .inl (Option.some.inj h6)
   ·have h7:g'=(w.alloc (.cells #[.int .i64 yo,.string yt,.slice ya yn yc] 92)).heap.size:=Option.some.inj h6
    exact .inr (by rw [h7];simp)
theorem box3p {w w1:World}{v0 v1 v2:Value}{t:TypeId}(h:Below (w.alloc (.cells #[v0,v1,v2] t)).heap.size (w.alloc (.cells #[v0,v1,v2] t)) w1):
  (w1.cell? ⟨w.heap.size,0,none⟩=some v0∧w1.cell? ⟨w.heap.size,1,none⟩=some v1∧w1.cell? ⟨w.heap.size,2,none⟩=some v2)∧(w1.frozen? ⟨w.heap.size,0,none⟩=false∧w1.frozen? ⟨w.heap.size,1,none⟩=false∧w1.frozen? ⟨w.heap.size,2,none⟩=false)∧w.heap.size<w1.heap.size:=by
 have hl:w.heap.size<(w.alloc (.cells #[v0,v1,v2] t)).heap.size:=by simp
 have hb:w1.heap[w.heap.size]? =some (.cells #[v0,v1,v2] t (0,0)):=(h.block _ hl).trans (heap_alloc_new w _)
 refine⟨⟨?_,?_,?_⟩,⟨?_,?_,?_⟩,Nat.lt_of_lt_of_le hl h.size⟩
 ·rw [cell_of_row _ w.heap.size 0 _ _ _ hb];rfl
 ·rw [cell_of_row _ w.heap.size 1 _ _ _ hb];rfl
 ·rw [cell_of_row _ w.heap.size 2 _ _ _ hb];rfl
 all_goals simp [World.frozen?,hb]
theorem OwP.parts {d B:Nat}{w:World}{v:Value}{l:List Pat}{S:Nat→Prop}(h:OwL patK (d+1) B w v l S):∃(R:List PatR) (K:Nat→Nat→Prop),RowP B w v R∧R.length=l.length∧(∀i (h:i<R.length) (h':i<l.length),OwN patK d B w (R[i]:PatR) l[i] (K i))∧
   (∀i j b,i<R.length→j<R.length→K i b→K j b→i=j)∧(∀i b,i<R.length→K i b→v.ownBlock≠some b)∧∀b,S b↔v.ownBlock=some b∨∃i,i<R.length∧K i b:=h.parts
theorem OwN.slice {d B:Nat}{w:World}{x:PatR}{t:Pat}{S:Nat→Prop}(h:OwN patK d B w x t S):∃A c,x=⟨t.x.op,t.x.text,.slice A t.kids.length c⟩:=by
 obtain⟨⟨h1,h2⟩,h3⟩:=h.rd
 obtain⟨A,c,h4⟩:=h3.form
 obtain⟨xo,xt,xk⟩:=x
 have h1':xo=t.x.op:=h1
 have h2':xt=t.x.text:=h2
 have h4':xk=.slice A t.kids.length c:=h4
 exact⟨A,c,by rw [h1',h2',h4']⟩
theorem owN_of {d B:Nat}{w:World}{op:Int}{text:ByteArray}{v:Value}{l:List Pat}{S:Nat→Prop}(h:OwL patK d B w v l S):OwN patK d B w ⟨op,text,v⟩ (.mk ⟨op,text⟩ l) S:=
 ⟨fun _=>False,S,⟨⟨rfl,rfl⟩,fun _=>id⟩,h,fun _=>False.elim,fun b=>by simp⟩
theorem join_op (op:Int){l:List Pat}(h:l.length≠1):joinP op l=opP op l:=by
 match l,h with
 | [],_=>rfl
 | [_],h=>exact absurd rfl h
 | _::_::_,_=>rfl
def NodeOut (d B:Nat)(t:Pat)(S:Nat→Prop)(w:World)(e:Ending)(w':World):Prop:=
 ∃(A:Option Addr) (c:Nat) (S':Nat→Prop),e=.returned (.agg #[.int .i64 t.x.op,.string t.x.text,.slice A t.kids.length c])∧OwN patK d B w' ⟨t.x.op,t.x.text,.slice A t.kids.length c⟩ t S'∧(∀b,S' b→S b)∧Below w.heap.size w w'
theorem iJoin_one (d B:Nat)(op:Int)(A:Option Addr)(c:Nat)(t:Pat)(S:Nat→Prop)(w:World)(h:OwL patK (d+1) B w (.slice A 1 c) [t] S):
  Calls Tryz.prog 132 #[.int .i64 op,.slice A 1 c] w (NodeOut d B t S w):=by
 rcases h.form with ⟨_,h0⟩|⟨g,cap,hv,hgB,hg⟩
 ·cases h0
 ·injection hv with e1 e2 e3
  subst e1;subst e3;clear e2
  obtain⟨R,K,h1,h2,h3,h4,h5,h6⟩:=OwP.parts h
  have hR:0<R.length:=by rw [h2];simp
  have hn:=h3 0 hR (by simp)
  obtain⟨Ak,ck,hx⟩:=hn.slice
  have hz:∀r:PatR,r.enc.length=3:=fun _=>rfl
  have c0:w.cell? ⟨g,0,none⟩=some (.int .i64 t.x.op):=by have:=RowR.cell hz h1 hR (j:=0) (x:=.int .i64 t.x.op) (by rw [hx];rfl);simpa using this
  have c1:w.cell? ⟨g,1,none⟩=some (.string t.x.text):=by have:=RowR.cell hz h1 hR (j:=1) (x:=.string t.x.text) (by rw [hx];rfl);simpa using this
  have c2:w.cell? ⟨g,2,none⟩=some (.slice Ak t.kids.length ck):=by have:=RowR.cell hz h1 hR (j:=2) (x:=.slice Ak t.kids.length ck) (by rw [hx];rfl);simpa using this
  rw [hx]at hn
  have hn':OwN patK d B w ⟨t.x.op,t.x.text,.slice Ak t.kids.length ck⟩ t (K 0):=hn
  have HN:=hid hn'
  have HS:Hid (∀b,K 0 b→S b):=hid fun b hb=>(h6 b).2 (.inr ⟨0,hR,hb⟩)
  clear hn hn' h h1 h2 h3 h4 h5 h6 hx hz hR hgB
  go_enter Tryz.func132,Tryz.ntmps132
  go_wp2
  refine bodyPost_ret (v:=.agg #[.int .i64 t.x.op,.string t.x.text,.slice Ak t.kids.length ck]) (by simp [results,Tryz.results132,go_sem]) rfl ?_
  exact⟨Ak,ck,K 0,rfl,HN.out.below (below_al (Below.refl _ _) _),HS.out,below_al (Below.refl _ _) _⟩
theorem iJoin_op (d B:Nat)(op:Int)(A:Option Addr)(c:Nat)(l:List Pat)(S:Nat→Prop)(w:World)(h:OwL patK d B w (.slice A l.length c) l S)(h1:l.length≠1):
  Calls Tryz.prog 132 #[.int .i64 op,.slice A l.length c] w (NodeOut d B (opP op l) S w):=by
 have HO:Hid (∀w',Below w.heap.size w w'→OwN patK d B w' ⟨op,⟨#[]⟩,.slice A l.length c⟩ (opP op l) S):=hid fun w' hb=>owN_of (h.below hb)
 have hn1:((l.length:Int)==1)=false:=by simp only [beq_eq_false_iff_ne,ne_eq];omega
 have H1:=hid h1
 clear h h1
 go_enter Tryz.func132,Tryz.ntmps132
 go_wp2
 refine bodyPost_ret (v:=.agg #[.int .i64 op,.string ⟨#[]⟩,.slice A l.length c]) (by simp [results,Tryz.results132,go_sem]) rfl ?_
 exact⟨A,c,S,rfl,HO.out _ (below_al (Below.refl _ _) _),fun _=>id,below_al (Below.refl _ _) _⟩
theorem iJoin_any (d B:Nat)(op:Int)(v:Value)(l:List Pat)(S:Nat→Prop)(w:World)(h:OwL patK (d+1) B w v l S):
  Calls Tryz.prog 132 #[.int .i64 op,v] w (NodeOut (d+1) B (joinP op l) S w):=by
 have hf:∃A c,v=.slice A l.length c:=h.rd.form
 obtain⟨A,c,rfl⟩:=hf
 by_cases h1:l.length=1
 ·match l,h1,h with
  | [t], _, h =>
   refine(iJoin_one d B op A c t S w h).mono ?_
   rintro e w' ⟨A',c',S',h2,h3,h4⟩
   exact⟨A',c',S',h2,h3.to (Nat.le_succ d),h4⟩
 ·rw [join_op op h1]
  exact iJoin_op (d+1) B op A c l S w h h1
end
section
open Go.RowKit

theorem betw_length (a b:UInt8):(betw a b).length=b.toNat-a.toNat+1:=by simp [betw]
theorem betw_take {a b:UInt8}{k:Nat}(hk:k<b.toNat-a.toNat+1):(betw a b).take (k+1)=(betw a b).take k++ [UInt8.ofNat (a.toNat+k)]:=by
 rw [List.take_succ_eq_append_getElem (by rw [betw_length];exact hk)]
 simp [betw]
theorem any_betw:betw 32 126=anyL:=by decide
theorem iPc_any (c:UInt8)(w:World):Calls Tryz.prog 196 #[.int .u8 c.toNat] w fun e w'=>e=.returned (.bool (pcB c))∧w=w':=by
 unfold pcB
 cases h:nbB c
 ·have HB:=hid h
  clear h
  by_cases h1:c=95
  ·have h1':((c.toNat:Int)==95)=true:=by rw [h1];rfl
   have e:(c==95)=true:=by rw [h1];rfl
   rw [e]
   clear e h1
   go_enter Tryz.func196,Tryz.ntmps196
   go_wp2_with (go_at_call 122;((with_reducible refine(iNb_any _ _).mono ?_);rw [HB.out];rintro e w' ⟨rfl,rfl⟩))
   go_ret
   exact⟨rfl,rfl⟩
  ·have h1':((c.toNat:Int)==95)=false:=byte_ne (d:=95) h1
   have e:(c==95)=false:=beq_eq_false_iff_ne.2 h1
   rw [e]
   clear e h1
   have h2:((c.toNat:Int)==46)=(c==46):=byte_beq c 46
   have H2:=hid h2
   clear h2
   go_enter Tryz.func196,Tryz.ntmps196
   go_wp2_with (go_at_call 122;((with_reducible refine(iNb_any _ _).mono ?_);rw [HB.out];rintro e w' ⟨rfl,rfl⟩))
   go_ret
   exact⟨ret_bool (by rw [H2.out];rfl),rfl⟩
 ·have HB:=hid h
  clear h
  go_enter Tryz.func196,Tryz.ntmps196
  go_wp2_with (go_at_call 122;((with_reducible refine(iNb_any _ _).mono ?_);rw [HB.out];rintro e w' ⟨rfl,rfl⟩))
  go_ret
  exact⟨rfl,rfl⟩
theorem iBetw_any (a b:UInt8)(hab:a.toNat≤b.toNat)(w:World):
  Calls Tryz.prog 188 #[.int .u8 a.toNat,.int .u8 b.toNat] w fun e w'=>∃v,e=.returned v∧Buf w.heap.size v (betw a b) w w':=by
 have ha:=a.toNat_lt
 have hb:=b.toNat_lt
 obtain⟨x,hx⟩:∃x,x=a.toNat:=⟨_,rfl⟩
 obtain⟨y,hy⟩:∃y,y=b.toNat:=⟨_,rfl⟩
 rw [←hx]at ha hab ⊢
 rw [←hy]at hb hab ⊢
 have hxy:(x:Int)≤(y:Int):=by omega
 have hy1:(y:Int)≤255:=by omega
 have HN:Hid ((betw a b).length=y-x+1):=hid (by rw [betw_length,hx,hy])
 have HT:Hid (∀k,k<y-x+1→(betw a b).take (k+1)=(betw a b).take k++ [UInt8.ofNat (x+k)]):=hid fun k hk=>by
  rw [betw_take (by rw [←hx,←hy];exact hk),hx]
 generalize betw a b=L at HN HT ⊢
 have hb0:Buf w.heap.size (.slice (some ⟨w.heap.size,0,none⟩) 0 0) [] w (w.alloc (.cells #[] 5)):=buf_none (Below.refl _ _)
 clear hx hy
 go_enter Tryz.func188,Tryz.ntmps188
 go_wp2
 go_loopw [5,13] (fun v i wr=>∃k:Nat,k≤y-x+1∧i=.int .i64 k∧Buf w.heap.size v (L.take k) w wr) (fun _ i _=>y-x+1-(intOf i).toNat)
 case atStart=>exact⟨0,by omega,rfl,by rw [List.take_zero];exact hb0⟩
 case round=>
  obtain⟨k,hk,rfl,hb⟩:=hrel
  clear hb0
  by_cases hlt:k<y-x+1
  ·have hlt2:(k:Int)<(y:Int)-(x:Int)+1:=by omega
   have hcv:(((UInt8.ofNat (x+k)).toNat:Nat):Int)=(x:Int)+(k:Int):=by
    simp only [UInt8.toNat_ofNat'];omega
   have hlen:(L.take k).length≤300:=by rw [List.length_take];omega
   have HCV:=hid hcv
   have HNX:=hid (HT.out k hlt)
   clear hcv
   go_wp2_with (at_builtin;refine buf_append rfl _ _ rfl _ _ _ rfl _ _ _ hb rfl (UInt8.ofNat (x+k)) (HCV.out) (by omega) ?_;clear hb;intro v1 w1 hb)
   go_roundw
   case rel=>exact⟨k+1,by omega,by go_num,by rw [HNX.out];exact hb⟩
   case measure=>simp [intOf];omega
  ·have hge:¬(k:Int)<(y:Int)-(x:Int)+1:=by omega
   go_wp2
   go_ret
   rw [List.take_of_length_le (by have:=HN.out;omega)]at hb
   exact⟨_,rfl,hb⟩
theorem spanL_char {c:UInt8}{r:List UInt8}(h:pcB c=false):spanL (c::r)=none:=by unfold spanL;simp [h]
theorem spanL_one {c:UInt8}(h:pcB c=true):spanL [c]=some ([c],[]):=by unfold spanL;simp [h]
theorem spanL_solo {c t:UInt8}{r:List UInt8}(h:pcB c=true)(h1:t≠126):spanL (c::t::r)=some ([c],t::r):=by unfold spanL;simp [h,h1]
theorem spanL_cut {c:UInt8}(h:pcB c=true):spanL [c,126]=none:=by unfold spanL;simp [h]
theorem spanL_bad {c d:UInt8}{r:List UInt8}(h:pcB c=true)(hd:¬(pcB d=true∧c.toNat≤d.toNat)):spanL (c::126::d::r)=none:=by
 show(if pcB c=true then(if (126:UInt8)=126 then(if pcB d=true∧c.toNat≤d.toNat then some (betw c d,r)else none)else some ([c],126::d::r))else none)=none
 rw [if_pos h,if_pos rfl,if_neg hd]
theorem spanL_row {c d:UInt8}{r:List UInt8}(h:pcB c=true)(hd:pcB d=true∧c.toNat≤d.toNat):spanL (c::126::d::r)=some (betw c d,r):=by
 show(if pcB c=true then(if (126:UInt8)=126 then(if pcB d=true∧c.toNat≤d.toNat then some (betw c d,r)else none)else some ([c],126::d::r))else none)=some (betw c d,r)
 rw [if_pos h,if_pos rfl,if_pos hd]
theorem data_len1 {s:ByteArray}(h:s.size=1):s.data.toList=[s[0]]:=by
 rw [data_cons s (by omega),List.drop_eq_nil_of_le (by simp;omega)]
theorem data_two (s:ByteArray)(h:1<s.size):s.data.toList=s[0]::s[1]::s.data.toList.drop 2:=by
 rw [data_cons s (by omega),data_drop s 1 h]
 simp
theorem data_three (s:ByteArray)(h:2<s.size):s.data.toList=s[0]::s[1]::s[2]::s.data.toList.drop 3:=by
 rw [data_two s (by omega),data_drop s 2 h]
 simp
theorem Buf.lift {v:Value}{l:List UInt8}{w W w1:World}(h:Buf W.heap.size v l W w1)(hb:Below w.heap.size w W):Buf w.heap.size v l w w1:=
 ⟨⟨h.1.1,by
  rcases h.1.2 with hn|⟨g,cap,cur,fz,h1,h2,h3⟩
  ·exact .inl hn
  ·exact .inr ⟨g,cap,cur,fz,h1,Nat.le_trans hb.size h2,h3⟩⟩,below_step hb h.2.1,Nat.le_trans hb.size h.2.2⟩
theorem tup_int {a:Value}{x y:Int}(h:x=y):Ending.returned (.tuple #[a,.int .i64 x])=.returned (.tuple #[a,.int .i64 y]):=by rw [h]
def SpanOut (o:Option (List UInt8×List UInt8))(n:Nat)(w:World)(e:Ending)(w':World):Prop:=match o with
 | none=>∃v,e=.returned (.tuple #[v,.int .i64 0])∧Buf w.heap.size v [] w w'
 | some (b,r)=>∃v,e=.returned (.tuple #[v,.int .i64 ((n-r.length:Nat):Int)])∧Buf w.heap.size v b w w'
theorem iPc_q (c:UInt8)(b:Bool)(h:pcB c=b)(w:World):Calls Tryz.prog 196 #[.int .u8 c.toNat] w fun e w'=>e=.returned (.bool b)∧w'=w:=
 (iPc_any c w).mono fun _ _ ⟨he,hw⟩=>⟨by rw [he,h],hw.symm⟩
theorem iSpan_any (s:ByteArray)(hs:s.size≤1048576)(w:World):
  Calls Tryz.prog 193 #[.string s] w (SpanOut (spanL s.data.toList) s.size w):=by
 have hb0:Buf w.heap.size (.slice (some ⟨w.heap.size,0,none⟩) 0 0) [] w (w.alloc (.cells #[] 5)):=buf_none (Below.refl _ _)
 by_cases h0:s.size=0
 ·have he:s.data.toList=[]:=by rw [str_empty h0]
  have hem:s.toList.isEmpty=true:=by rw [ByteArray.toList_eq,he];rfl
  have hem2:s.toList=[]:=by rw [ByteArray.toList_eq,he]
  rw [he]
  have HB:=hid hb0
  clear he hb0 h0
  go_enter Tryz.func193,Tryz.ntmps193
  go_wp2
  go_ret2
  exact⟨_,rfl,HB.out⟩
 ·have h0':0<s.size:=by omega
  have hne:=not_empty h0'
  have hne2:¬s.toList=[]:=by rw [ByteArray.toList_eq];exact data_ne h0'
  have hs9:s.size≤9223372036854775807:=by omega
  have hx0:(s[0].toNat:Int)≤255:=by have:=s[0].toNat_lt;omega
  have HB:=hid hb0
  clear hb0 h0
  cases h1:pcB s[0]
  ·rw [data_cons s h0',spanL_char h1]
   have H1:=hid h1
   clear h1
   go_enter Tryz.func193,Tryz.ntmps193
   go_wp2_with (go_at_call 196;((with_reducible refine(iPc_any _ _).mono ?_);rw [H1.out];rintro e w' ⟨rfl,rfl⟩))
   go_ret2
   exact⟨_,rfl,HB.out⟩
  ·have H1:=hid h1
   by_cases h2:s.size=1
   ·rw [data_len1 h2,spanL_one h1]
    have hq:((s.size:Int)==1)=true:=by simp;omega
    have HB1:=hid (buf_one (Below.refl w.heap.size w) s[0] rfl)
    have HL:Hid (s.size=1):=hid h2
    clear h1 h2
    go_enter Tryz.func193,Tryz.ntmps193
    go_wp2_with (go_at_call 196;((with_reducible refine(iPc_any _ _).mono ?_);rw [H1.out];rintro e w' ⟨rfl,rfl⟩))
    go_ret2
    exact⟨_,tup_int (by have:=HL.out;simp;omega),HB1.out⟩
   ·have h3:1<s.size:=by omega
    have hq:((s.size:Int)==1)=false:=by simp only [beq_eq_false_iff_ne,ne_eq];omega
    have hi1:(1:Int)<(s.size:Int):=by omega
    clear h2
    by_cases h4:s[1]=126
    ·have h4':((s[1].toNat:Int) != 126)=false:=by rw [h4];rfl
     by_cases h5:s.size=2
     ·have hq2:((s.size:Int)==2)=true:=by simp;omega
      have he:s.data.toList=[s[0],126]:=by
       rw [data_two s h3,h4,List.drop_eq_nil_of_le (by simp;omega)]
      rw [he,spanL_cut h1]
      have HL:=hid h5
      clear he h1 h4 h5
      go_enter Tryz.func193,Tryz.ntmps193
      go_wp2_with (go_at_call 196;((with_reducible refine(iPc_any _ _).mono ?_);rw [H1.out];rintro e w' ⟨rfl,rfl⟩))
      go_quiet (fail)
      go_wp2
      go_ret2
      exact⟨_,rfl,HB.out.drewN _⟩
     ·have h6:2<s.size:=by omega
      have hq2:((s.size:Int)==2)=false:=by simp only [beq_eq_false_iff_ne,ne_eq];omega
      have hi2:(2:Int)<(s.size:Int):=by omega
      have hd3:s.data.toList=s[0]::126::s[2]::s.data.toList.drop 3:=by rw [data_three s h6,h4];simp
      have hx2:(s[2].toNat:Int)≤255:=by have:=s[2].toNat_lt;omega
      clear h5
      by_cases h7:pcB s[2]=true∧s[0].toNat≤s[2].toNat
      ·rw [hd3,spanL_row h1 h7]
       obtain⟨h8,h9⟩:=h7
       have H8:=hid h8
       have h9':¬(s[2].toNat:Int)<(s[0].toNat:Int):=by omega
       have hdd:decide ((s[2].toNat:Int)<(s[0].toNat:Int))=false:=by simpa using h9'
       have H9:=hid h9
       have HL:Hid ((s.size-(s.data.toList.drop 3).length:Nat)=3):=hid (by simp;omega)
       clear h1 h4 h8 h9 hd3
       go_enter Tryz.func193,Tryz.ntmps193
       go_wp2_with (go_at_call 196;((with_reducible refine(iPc_any _ _).mono ?_);rw [H1.out];rintro e w' ⟨rfl,rfl⟩))
       go_quiet ((go_at_call 196;exact Calls.quiet_of_same (iPc_q _ true H8.out _)))
       go_wp2
       go_region_held3 (fun w'=>Below w.heap.size w w') (first|exact(below_drewN (Below.refl _ _) _)|exact(below_drewN (below_drewN (Below.refl _ _) _) _)|exact hbuf2.below|assumption|go_keep) (first|(go_at_call 188;refine(iBetw_any s[0] s[2] H9.out _).mono ?_;rintro e w1 ⟨v,rfl,hbuf⟩;have hbuf2:=Buf.lift hbuf (by assumption:Below w.heap.size w _)))
       all_goals
        go_wp2
        go_ret2
        exact⟨_,tup_int (by rw [HL.out];rfl),hbuf2⟩
      ·rw [hd3,spanL_bad h1 h7]
       cases h8:pcB s[2]
       ·have H8:=hid h8
        clear h1 h4 h8 hd3 h7
        go_enter Tryz.func193,Tryz.ntmps193
        go_wp2_with (go_at_call 196;((with_reducible refine(iPc_any _ _).mono ?_);rw [H1.out];rintro e w' ⟨rfl,rfl⟩))
        go_quiet ((go_at_call 196;exact Calls.quiet_of_same (iPc_q _ false H8.out _)))
        go_wp2
        go_ret2
        exact⟨_,rfl,buf_none (below_drewN (Below.refl _ _) _)⟩
       ·have h9':(s[2].toNat:Int)<(s[0].toNat:Int):=by
         have:¬s[0].toNat≤s[2].toNat:=fun h=>h7 ⟨h8,h⟩
         omega
        have hdd:decide ((s[2].toNat:Int)<(s[0].toNat:Int))=true:=by simpa using h9'
        have H8:=hid h8
        clear h1 h4 h8 hd3 h7
        go_enter Tryz.func193,Tryz.ntmps193
        go_wp2_with (go_at_call 196;((with_reducible refine(iPc_any _ _).mono ?_);rw [H1.out];rintro e w' ⟨rfl,rfl⟩))
        go_quiet ((go_at_call 196;exact Calls.quiet_of_same (iPc_q _ true H8.out _)))
        go_wp2
        go_ret2
        exact⟨_,rfl,buf_none (below_drewN (Below.refl _ _) _)⟩
    ·have h4':((s[1].toNat:Int) != 126)=true:=by rw [bne,show((s[1].toNat:Int)==126)=false from byte_ne (d:=126) h4];rfl
     rw [data_two s h3,spanL_solo h1 h4]
     have HL:Hid ((s.size-(s[1]::s.data.toList.drop 2).length:Nat)=1):=hid (by simp;omega)
     have HB1:=hid (buf_one (Below.refl w.heap.size w) s[0] rfl)
     clear h1 h4
     go_enter Tryz.func193,Tryz.ntmps193
     go_wp2_with (go_at_call 196;((with_reducible refine(iPc_any _ _).mono ?_);rw [H1.out];rintro e w' ⟨rfl,rfl⟩))
     go_ret2
     exact⟨_,tup_int (by rw [HL.out];rfl),HB1.out⟩
end
section
open Go.RowKit

theorem s3Let_any (c:UInt8)(w:World):Calls Tryz.prog 164 #[.int .u8 c.toNat] w fun e w'=>e=.returned (.bool (letB c))∧w=w':=by
 have hby:(c.toNat:Int)≤255:=by have:=c.toNat_lt;omega
 have h:∀w,Calls Tryz.prog 56 #[.int .i64 c.toNat,.int .i64 97,.int .i64 122] w fun e w'=>e=.returned (.bool (letB c))∧w=w':=fun w=>
  (sIn_any _ _ _ w).mono fun _ _ ⟨he,hw⟩=>⟨by rw [he];exact ret_bool (by unfold letB;congr 1;exact propext ⟨fun h=>by omega,fun h=>by omega⟩),hw⟩
 go_enter Tryz.func164,Tryz.ntmps164
 go_wp2_with (go_at_call 56;refine(h _).mono ?_;rintro e w' ⟨rfl,rfl⟩)
 go_ret
 exact⟨rfl,rfl⟩
theorem s3Dig_any (c:UInt8)(w:World):Calls Tryz.prog 165 #[.int .u8 c.toNat] w fun e w'=>e=.returned (.bool (digB c))∧w=w':=by
 have hby:(c.toNat:Int)≤255:=by have:=c.toNat_lt;omega
 have h:∀w,Calls Tryz.prog 56 #[.int .i64 c.toNat,.int .i64 48,.int .i64 57] w fun e w'=>e=.returned (.bool (digB c))∧w=w':=fun w=>
  (sIn_any _ _ _ w).mono fun _ _ ⟨he,hw⟩=>⟨by rw [he];exact ret_bool (by unfold digB;congr 1;exact propext ⟨fun h=>by omega,fun h=>by omega⟩),hw⟩
 go_enter Tryz.func165,Tryz.ntmps165
 go_wp2_with (go_at_call 56;refine(h _).mono ?_;rintro e w' ⟨rfl,rfl⟩)
 go_ret
 exact⟨rfl,rfl⟩
end
section
open Go.RowKit

def PS (w:World)(b:Nat)(s:ByteArray)(i:Nat)(bad:Bool):Prop:=w.heap[b]? =some (.cells #[.string s,.int .i64 (i:Int),.bool bad] 134 (0,0))
section
variable {w w':World} {b:Nat} {s:ByteArray} {i:Nat} {bad:Bool}
theorem PS.lt (h:PS w b s i bad):b<w.heap.size:=(Array.getElem?_eq_some_iff.1 h).1
theorem PS.cells (h:PS w b s i bad):(w.cell? ⟨b,0,none⟩=some (.string s)∧w.cell? ⟨b,1,none⟩=some (.int .i64 (i:Int))∧w.cell? ⟨b,2,none⟩=some (.bool bad))∧w.frozen? ⟨b,1,none⟩=false∧w.frozen? ⟨b,2,none⟩=false:=
 ⟨⟨by rw [cell_of_row w b 0 _ _ _ h];rfl,by rw [cell_of_row w b 1 _ _ _ h];rfl,by rw [cell_of_row w b 2 _ _ _ h];rfl⟩,by unfold PS at h;simp [World.frozen?,h],by unfold PS at h;simp [World.frozen?,h]⟩
theorem PS.below (h:PS w b s i bad)(hb:Below w.heap.size w w'):PS w' b s i bad:=(hb.block b h.lt).trans h
theorem PS.drewN (h:PS w b s i bad)(q:Nat):PS (w.drewN q) b s i bad:=h
theorem PS.set1 (h:PS w b s i bad)(j:Nat):PS (w.setCell ⟨b,1,none⟩ (.int .i64 (j:Int))) b s j bad:=by
 unfold PS;rw [heap_setCell_same w b 1 _ _ _ h];rfl
theorem PS.set2 (h:PS w b s i bad)(c:Bool):PS (w.setCell ⟨b,2,none⟩ (.bool c)) b s i c:=by
 unfold PS;rw [heap_setCell_same w b 2 _ _ _ h];rfl
theorem turns_drewN {S:Nat→Prop}(w:World)(q:Nat):TurnsAt S w (w.drewN q):=⟨rfl,rfl,rfl,Nat.le_refl _,fun _ _ _=>rfl⟩
theorem turns_set {S:Nat→Prop}(w:World)(b j:Nat)(u:Value)(h:S b):TurnsAt S w (w.setCell ⟨b,j,none⟩ u):=
 ⟨rfl,rfl,rfl,by simp [World.setCell],fun q _ hq=>Below.heap_setCell w ⟨b,j,none⟩ u q (fun e=>hq (by rw [e];exact h))⟩
end
abbrev RT (b:Nat)(w w':World):Prop:=TurnsAt (fun q=>q=b) w w'
def NoNext (s:ByteArray)(i:Nat)(bad:Bool)(c:UInt8):Prop:=bad=true∨∀h:i<s.size,s[i]≠c
theorem next_no (b:Nat)(s:ByteArray)(hs:s.size≤maxLen)(i:Nat)(bad:Bool)(c:UInt8)(x:Int)(hx:x=(c.toNat:Int))(w:World)(h:PS w b s i bad)(hn:NoNext s i bad c):
  Calls Tryz.prog 120 #[.pointer (some ⟨b,0,none⟩),.int .u8 x] w fun e w'=>e=.returned (.bool false)∧PS w' b s i bad∧RT b w w':=by
 subst hx
 unfold maxLen at hs
 obtain⟨⟨c0,c1,c2⟩,f1,f2⟩:=h.cells
 have HP:=hid h
 cases bad with
 | true =>
  clear h hn
  go_enter Tryz.func120,Tryz.ntmps120
  go_wp2
  go_quiet (fail)
  go_wp2
  go_ret
  exact⟨rfl,HP.out.drewN _,turns_drewN _ _⟩
 | false =>
  by_cases hlt:i<s.size
  ·have hne:s[i]≠c:=(hn.resolve_left (by decide)) hlt
   have hq:((s[i].toNat:Int)==(c.toNat:Int))=false:=byte_ne hne
   have hq1:decide ((i:Int)<(s.size:Int))=true:=by simp;omega
   have hq2:(i:Int)<(s.size:Int):=by omega
   have HNE:=hid hne
   clear h hn hne
   go_enter Tryz.func120,Tryz.ntmps120
   go_wp2
   go_quiet (fail)
   go_wp2
   go_ret
   exact⟨rfl,HP.out.drewN _,turns_drewN _ _⟩
  ·have hq1:decide ((i:Int)<(s.size:Int))=false:=by simp;omega
   have hq2:¬(i:Int)<(s.size:Int):=by omega
   clear h hn
   go_enter Tryz.func120,Tryz.ntmps120
   go_wp2
   go_quiet (fail)
   go_wp2
   go_ret
   exact⟨rfl,HP.out.drewN _,turns_drewN _ _⟩
theorem next_yes (b:Nat)(s:ByteArray)(hs:s.size≤maxLen)(i:Nat)(c:UInt8)(x:Int)(hx:x=(c.toNat:Int))(w:World)(h:PS w b s i false)(hlt:i<s.size)(he:s[i]=c):
  Calls Tryz.prog 120 #[.pointer (some ⟨b,0,none⟩),.int .u8 x] w fun e w'=>e=.returned (.bool true)∧PS w' b s (i+1) false∧RT b w w':=by
 subst hx
 unfold maxLen at hs
 obtain⟨⟨c0,c1,c2⟩,f1,f2⟩:=h.cells
 have HP:=hid h
 have hq:((s[i].toNat:Int)==(c.toNat:Int))=true:=by rw [he];simp
 have hq1:decide ((i:Int)<(s.size:Int))=true:=by simp;omega
 have hq2:(i:Int)<(s.size:Int):=by omega
 have HE:=hid he
 clear h he
 go_enter Tryz.func120,Tryz.ntmps120
 go_wp2
 go_quiet (fail)
 go_wp2
 go_ret
 exact⟨rfl,(HP.out.drewN _).set1 (i+1),(turns_drewN _ _).trans (turns_set _ _ _ _ rfl)⟩
theorem sChar_any (c:UInt8)(w:World):Calls Tryz.prog 181 #[.int .u8 c.toNat] w fun e w'=>e=.returned (.bool (pcB c))∧w=w':=by
 obtain⟨bl,hl⟩:∃x,letB c=x:=⟨_,rfl⟩
 obtain⟨bd,hd⟩:∃x,digB c=x:=⟨_,rfl⟩
 have e45:(c==45)=((c.toNat:Int)==45):=(byte_beq c 45).symm
 have e95:(c==95)=((c.toNat:Int)==95):=(byte_beq c 95).symm
 have e46:(c==46)=((c.toNat:Int)==46):=(byte_beq c 46).symm
 have HP:Hid (pcB c=(bl || bd || ((c.toNat:Int)==45) || ((c.toNat:Int)==95) || ((c.toNat:Int)==46))):=hid (by
  unfold pcB nbB;rw [hl,hd,e45,e95,e46])
 have HL:=hid hl
 have HD:=hid hd
 clear hl hd e45 e95 e46
 obtain⟨x,hx⟩:∃x:Int,x=(c.toNat:Int):=⟨_,rfl⟩
 rw [←hx]at HP
 cases bl
 ·cases bd
  ·cases h1:((c.toNat:Int)==95)
   ·cases h2:((c.toNat:Int)==45)
    ·rw [hx,h1,h2]at HP
     have HX:=hid hx
     clear hx
     go_enter Tryz.func181,Tryz.ntmps181
     go_wp2_with (first
   |(go_at_call 164;((with_reducible refine(s3Let_any _ _).mono ?_);rw [HL.out];rintro e w' ⟨rfl,rfl⟩))
   |(go_at_call 165;((with_reducible refine(s3Dig_any _ _).mono ?_);rw [HD.out];rintro e w' ⟨rfl,rfl⟩)))
     go_ret
     exact⟨ret_bool (by rw [HP.out];rfl),rfl⟩
    ·rw [hx,h1,h2]at HP
     have HX:=hid hx
     clear hx
     go_enter Tryz.func181,Tryz.ntmps181
     go_wp2_with (first
   |(go_at_call 164;((with_reducible refine(s3Let_any _ _).mono ?_);rw [HL.out];rintro e w' ⟨rfl,rfl⟩))
   |(go_at_call 165;((with_reducible refine(s3Dig_any _ _).mono ?_);rw [HD.out];rintro e w' ⟨rfl,rfl⟩)))
     go_ret
     exact⟨ret_bool (by rw [HP.out];rfl),rfl⟩
   ·rw [hx,h1]at HP
    have HX:=hid hx
    clear hx
    go_enter Tryz.func181,Tryz.ntmps181
    go_wp2_with (first
   |(go_at_call 164;((with_reducible refine(s3Let_any _ _).mono ?_);rw [HL.out];rintro e w' ⟨rfl,rfl⟩))
   |(go_at_call 165; ((with_reducible refine (s3Dig_any _ _).mono ?_); rw [HD.out]; rintro e w' ⟨rfl, rfl⟩)))
    go_ret
    exact⟨ret_bool (by rw [HP.out];simp),rfl⟩
  ·have HX:=hid hx
   clear hx
   go_enter Tryz.func181,Tryz.ntmps181
   go_wp2_with (first
   |(go_at_call 164;((with_reducible refine(s3Let_any _ _).mono ?_);rw [HL.out];rintro e w' ⟨rfl,rfl⟩))
   |(go_at_call 165;((with_reducible refine(s3Dig_any _ _).mono ?_);rw [HD.out];rintro e w' ⟨rfl,rfl⟩)))
   go_ret
   exact⟨ret_bool (by rw [HP.out];simp),rfl⟩
 ·have HX:=hid hx
  clear hx
  go_enter Tryz.func181,Tryz.ntmps181
  go_wp2_with (first
   |(go_at_call 164;((with_reducible refine(s3Let_any _ _).mono ?_);rw [HL.out];rintro e w' ⟨rfl,rfl⟩))
   |(go_at_call 165;((with_reducible refine(s3Dig_any _ _).mono ?_);rw [HD.out];rintro e w' ⟨rfl,rfl⟩)))
  go_ret
  exact⟨ret_bool (by rw [HP.out];simp),rfl⟩
theorem sAny_any (w:World):Calls Tryz.prog 163 #[] w fun e w'=>e=.returned (.string ⟨anyL.toArray⟩)∧Below w.heap.size w w':=by
 have hb0:Buf w.heap.size (.slice (some ⟨w.heap.size,0,none⟩) 0 0) [] w (w.alloc (.cells #[] 5)):=buf_none (Below.refl _ _)
 have HT:Hid (∀k,k<95→anyL.take (k+1)=anyL.take k++ [UInt8.ofNat (32+k)]):=hid fun k hk=>by
  rw [List.take_succ_eq_append_getElem (by simpa [anyL]using hk)]
  simp [anyL]
 have HN:Hid (anyL.length=95):=hid (by simp [anyL])
 generalize anyL=L at HT HN ⊢
 go_enter Tryz.func163,Tryz.ntmps163
 go_wp2
 go_loopw [1,2] (fun v i wr=>∃k:Nat,k≤95∧i=.int .i64 (32+(k:Int))∧Buf w.heap.size v (L.take k) w wr) (fun _ i _=>127-(intOf i).toNat)
 case atStart=>exact⟨0,by omega,rfl,by rw [List.take_zero];exact hb0⟩
 case round=>
  obtain⟨k,hk,rfl,hb⟩:=hrel
  clear hb0
  by_cases hlt:k<95
  ·have hlt2:32+(k:Int)<127:=by omega
   have hcv:(((UInt8.ofNat (32+k)).toNat:Nat):Int)=32+(k:Int):=by
    simp only [UInt8.toNat_ofNat'];omega
   have hlen:(L.take k).length≤300:=by rw [List.length_take];omega
   have HCV:=hid hcv
   have HNX:=hid (HT.out k hlt)
   clear hcv
   go_wp2_with (at_builtin;refine buf_append rfl _ _ rfl _ _ _ rfl _ _ _ hb rfl (UInt8.ofNat (32+k)) (HCV.out) (by omega) ?_;clear hb;intro v1 w1 hb)
   go_roundw
   case rel=>exact⟨k+1,by omega,by go_num,by rw [HNX.out];exact hb⟩
   case measure=>simp [intOf];omega
  ·have hge:¬32+(k:Int)<127:=by omega
   have hcv:=buf_str hb
   rw [List.take_of_length_le (by have:=HN.out;omega)]at hcv
   go_wp2
   go_ret
   exact⟨rfl,hb.below⟩
end
end Go.Proofs.YtecladbckadijaaGreatDoor
