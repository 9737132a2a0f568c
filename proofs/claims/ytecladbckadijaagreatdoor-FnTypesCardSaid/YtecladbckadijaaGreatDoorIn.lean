/- MERGED for a claim. -/
import Derived.Test.YtecladbckadijaaGreatDoorRows
import Derived.WalkKit
import Derived.WalkSpells
import Derived.WalkLawsBesides
import Derived.Lib.Hide
import Derived.Lib.Strings
import Derived.Below
import Derived.OwnWalk
import Derived.Laws.AppendOwn
import Derived.Deep.AppendLies
import Derived.Deep.Onto
import Derived.Deep.Light
import Derived.Deep.QuietTactic
import Derived.BigQuiet
import Derived.RegionTactic
import Derived.Deep.Slices
import Derived.Deep.Strs
import Derived.Lib.SmallJoins
import Derived.Lib.BufSteps
import Derived.Laws.IdiomStrings
import Derived.Deep.RegionHeld3
import Derived.Maps.AppendAt
set_option linter.unusedVariables false
set_option linter.unusedSimpArgs false
set_option maxRecDepth 100000
set_option maxHeartbeats 16000000
namespace Go.Proofs.YtecladbckadijaaGreatDoor
open Go.Lib (hid)
section
open Go.RowKit

theorem ret_int {k:IntKind}{a b:Int}(h:a=b):Ending.returned (.int k a)=.returned (.int k b):=by rw [h]
theorem ret_bool {a b:Bool}(h:a=b):Ending.returned (.bool a)=.returned (.bool b):=by rw [h]
theorem ret_str {a b:ByteArray}(h:a=b):Ending.returned (.string a)=.returned (.string b):=by rw [h]
theorem ret_val {a b:Value}(h:a=b):Ending.returned a=.returned b:=by rw [h]
theorem data_drop (s:ByteArray)(k:Nat)(h:k<s.size):s.data.toList.drop k=s[k]::s.data.toList.drop (k+1):=by
 rw [List.drop_eq_getElem_cons (by simpa using h)];rfl
theorem data_ne {s:ByteArray}(h:0<s.size):s.data.toList≠[]:=by
 intro e;have:s.data.toList.length=s.size:=by simp
 rw [e]at this;simp at this;omega
theorem not_empty {s:ByteArray}(h:0<s.size):s.toList.isEmpty=false:=by
 rw [ByteArray.toList_eq]
 cases e:s.data.toList with
 | nil=>exact absurd e (data_ne h)
 | cons c r=>rfl
theorem data_cons (s:ByteArray)(h:0<s.size):s.data.toList=s[0]::s.data.toList.drop 1:=by
 have:=data_drop s 0 h
 simpa using this
theorem byte_eq {c d:UInt8}(h:(c.toNat:Int)=(d.toNat:Int)):c=d:=UInt8.toNat_inj.1 (by omega)
theorem byte_ne {c d:UInt8}(h:c≠d):((c.toNat:Int)==(d.toNat:Int))=false:=by
 simp only [beq_eq_false_iff_ne,ne_eq]
 intro e
 exact h (UInt8.toNat_inj.1 (by omega))
theorem str_empty {s:ByteArray}(h:s.size=0):s=⟨#[]⟩:=by apply ByteArray.ext;exact Array.eq_empty_of_size_eq_zero h
theorem below_step {w w1 w2:World}(h:Below w.heap.size w w1)(k:Below w1.heap.size w1 w2):Below w.heap.size w w2:=h.trans (k.mono h.size)
theorem below_al {w w1:World}(h:Below w.heap.size w w1)(o:Obj):Below w.heap.size w (w1.alloc o):=h.alloc h.size o
end
section
open Go.RowKit

theorem addr_blk (a:Addr)(j:Nat):(a.add j).block=a.block:=by unfold Addr.add;split<;>rfl
theorem addr_zero (g j:Nat):(⟨g,0,none⟩:Addr).add j=⟨g,j,none⟩:=by
 unfold Addr.add;split
 ·subst_vars;rfl
 ·simp
theorem addr_at (g i j:Nat):(⟨g,i,none⟩:Addr).add j=⟨g,i+j,none⟩:=by
 unfold Addr.add;split
 ·subst_vars;simp
 ·rfl
section
variable {α:Type}
def HasR (enc:α→List Value)(z:Nat)(w:World)(v:Value)(l:List α):Prop:=
 ∃(A:Option Addr) (cap:Nat),v=.slice A l.length cap∧l.length≤9223372036854775807∧∀i (h:i<l.length),∃a,A=some a∧a.block<w.heap.size∧∀j x,(enc l[i])[j]? =some x→w.cell? ((a.add (i*z)).add j)=some x
def RowR (enc:α→List Value)(z E B:Nat)(w:World)(v:Value)(l:List α):Prop:=w.ownsRow B E z v l.length (l.flatMap enc)
variable {enc:α→List Value} {z E B B':Nat} {w w':World} {v u:Value} {l:List α}
theorem HasR.below (h:HasR enc z w v l)(hb:Below w.heap.size w w'):HasR enc z w' v l:=by
 obtain⟨A,cap,hv,hn,h⟩:=h
 refine⟨A,cap,hv,hn,fun i hi=>?_⟩
 obtain⟨a,h1,h2,h3⟩:=h i hi
 exact⟨a,h1,Nat.lt_of_lt_of_le h2 hb.size,fun j x hx=>by rw [hb.cell (by rw [addr_blk,addr_blk];exact h2)];exact h3 j x hx⟩
theorem flat_get (hz:∀x,(enc x).length=z){i j:Nat}(hi:i<l.length){x:Value}(hx:(enc l[i])[j]? =some x):(l.flatMap enc)[i*z+j]? =some x:=by
 induction l generalizing i with
 | nil=>cases hi
 | cons y r ih =>
  rw [List.flatMap_cons]
  cases i with
  | zero =>
   have hj:j<(enc y).length:=(List.getElem?_eq_some_iff.1 hx).1
   rw [Nat.zero_mul,Nat.zero_add,List.getElem?_append_left hj];exact hx
  | succ i =>
   rw [List.getElem?_append_right (by rw [hz,Nat.succ_mul];omega),hz,show(i+1)*z+j-z=i*z+j by rw [Nat.succ_mul];omega]
   exact ih (by simpa using hi) (by simpa using hx)
theorem flat_len (hz:∀x,(enc x).length=z)(l:List α):(l.flatMap enc).length=l.length*z:=by
 induction l with
 | nil=>simp
 | cons y r ih=>rw [List.flatMap_cons,List.length_append,hz,ih,List.length_cons,Nat.succ_mul];omega
theorem RowR.cell (hz:∀x,(enc x).length=z){g cap n:Nat}(h:RowR enc z E B w (.slice (some ⟨g,0,none⟩) n cap) l){i j:Nat}(hi:i<l.length){x:Value}(hx:(enc l[i])[j]? =some x):w.cell? ⟨g,i*z+j,none⟩=some x:=by
 have:=h.cells (g:=g) rfl (i*z+j) x (flat_get hz hi hx)
 rwa [addr_zero]at this
theorem RowR.len (h:RowR enc z E B w v l):l.length≤9223372036854775807:=by
 rcases h.2 with ⟨_,h0⟩|⟨g,cap,cur,_,_,_,h1,h2,_,_⟩
 ·omega
 ·unfold maxLen at h2;omega
theorem RowR.form (h:RowR enc z E B w v l):(v=.slice none 0 0∧l=[])∨∃g cap,v=.slice (some ⟨g,0,none⟩) l.length cap∧B≤g∧g<w.heap.size:=by
 rcases h.2 with ⟨h1,h0⟩|⟨g,cap,cur,h1,h2,h3,_⟩
 ·exact .inl ⟨h1,List.length_eq_zero_iff.1 h0⟩
 ·exact .inr ⟨g,cap,h1,h2,(Array.getElem?_eq_some_iff.1 h3).1⟩
theorem RowR.has (hz:∀x,(enc x).length=z)(h:RowR enc z E B w v l):HasR enc z w v l:=by
 rcases h.form with ⟨rfl,rfl⟩|⟨g,cap,rfl,_,hg⟩
 ·exact⟨none,0,rfl,by simp,fun i hi=>absurd hi (by simp)⟩
 ·exact⟨_,cap,rfl,h.len,fun i hi=>⟨_,rfl,hg,fun j x hx=>by rw [addr_zero,addr_at];exact h.cell hz hi hx⟩⟩
theorem RowR.alloc (h:RowR enc z E B w v l)(o:Obj):RowR enc z E B (w.alloc o) v l:=World.ownsRow.alloc h o
theorem RowR.below (h:RowR enc z E B w v l)(hb:Below w.heap.size w w'):RowR enc z E B w' v l:=
 h.kept (row:=none) ⟨hb.os,hb.tape,hb.output,hb.size,fun k hk _=>hb.block k hk⟩ (by
  rcases h.form with ⟨rfl,_⟩|⟨g,cap,rfl,_,_⟩<;>simp [Value.ownBlock])
theorem RowR.other (h:RowR enc z E B w v l)(hg:w.grownBy w' u.ownBlock)(hne:∀k,v.ownBlock=some k→u.ownBlock≠some k):RowR enc z E B w' v l:=
 h.kept hg (by
  cases e:v.ownBlock with
  | none=>exact .inl rfl
  | some k=>exact .inr fun e'=>hne k e e'.symm)
theorem RowR.mono (h:RowR enc z E B w v l)(hb:B'≤B):RowR enc z E B' w v l:=World.ownsRow.mono h hb
theorem RowR.lt (h:RowR enc z E B w v l){k:Nat}(hk:v.ownBlock=some k):B≤k∧k<w.heap.size:=World.ownsRow.lt h k hk
theorem RowR.cap' {g cap n:Nat}(h:RowR enc z E B w (.slice (some ⟨g,0,none⟩) n cap) l):n=l.length:=by
 rcases h.2 with ⟨h',_⟩|⟨g',cap',cur,h',_⟩
 ·cases h'
 ·cases h';rfl
theorem RowR.cap {g cap n:Nat}(h:RowR enc z E B w (.slice (some ⟨g,0,none⟩) n cap) l):n≤cap:=by
 rcases h.2 with ⟨h',_⟩|⟨g',cap',cur,h',_,_,h5,_⟩
 ·cases h'
 ·cases h';exact h5
theorem RowR.frozen {g cap n:Nat}(h:RowR enc z E B w (.slice (some ⟨g,0,none⟩) n cap) l)(i:Nat):w.frozen? ⟨g,i,none⟩=false:=by
 obtain rfl:=h.cap';exact World.ownsRow.frozenAt h i
theorem rowR_empty {b:Nat}{W:World}(hb:W.heap[b]? =some (.cells #[] E))(hB:B≤b):RowR enc z E B W (.slice (some ⟨b,0,none⟩) 0 0) []:=⟨by simp,.inr ⟨b,0,#[],rfl,hB,hb,by simp,by simp,by simp,by simp⟩⟩
theorem flat_set1 (hz:∀x,(enc x).length=z){i j:Nat}(hi:i<l.length)(hj:j<z){u:Value}{y:α}(hy:enc y=(enc l[i]).set j u):(l.flatMap enc).set (i*z+j) u=(l.set i y).flatMap enc:=by
 induction l generalizing i with
 | nil=>cases hi
 | cons c r ih =>
  cases i with
  | zero =>
   rw [List.flatMap_cons,List.set_cons_zero,List.flatMap_cons,Nat.zero_mul,Nat.zero_add,List.set_append_left _ _ (by rw [hz];exact hj),hy];rfl
  | succ i =>
   rw [List.flatMap_cons,List.set_cons_succ,List.flatMap_cons,List.set_append_right _ _ (by rw [hz,Nat.succ_mul];omega),hz,show(i+1)*z+j-z=i*z+j by rw [Nat.succ_mul];omega]
   rw [ih (by simpa using hi) (by simpa using hy)]
theorem RowR.set1 (hz:∀x,(enc x).length=z){g cap n:Nat}(h:RowR enc z E B w (.slice (some ⟨g,0,none⟩) n cap) l){i:Nat}(hi:i<l.length)(j:Nat)(hj:j<z)(u:Value)(y:α)(hy:enc y=(enc l[i]).set j u):
  RowR enc z E B (w.setCell ⟨g,i*z+j,none⟩ u) (.slice (some ⟨g,0,none⟩) n cap) (l.set i y)∧w.grownBy (w.setCell ⟨g,i*z+j,none⟩ u) (some g):=by
 obtain rfl:=h.cap'
 have:=World.ownsRow.stored h (i*z+j) u
 refine⟨?_,this.2⟩
 unfold RowR
 rw [List.length_set,←flat_set1 hz hi hj hy]
 exact this.1
theorem made_flat (hz:∀x,(enc x).length=z)(h0:0<z)(c:Array Value)(y:α)(hc:c.toList=enc y)(n:Nat):(madeCells c (n*z)).toList=(List.replicate n y).flatMap enc:=by
 have hcs:c.size=z:=by rw [←hz y,←hc];simp
 apply List.ext_getElem?
 intro j
 by_cases hj:j<n*z
 ·have hd:j / z<n:=(Nat.div_lt_iff_lt_mul h0).2 hj
  have hm:j % z<z:=Nat.mod_lt _ h0
  have hx:(enc ((List.replicate n y)[j / z]'(by simpa using hd)))[j % z]? =some (c[j % z]!):=by
   rw [List.getElem_replicate,←hc,Array.getElem?_toList,Array.getElem?_eq_getElem (by rw [hcs];exact hm)]
   simp [hcs,hm]
  have:=flat_get (l:=List.replicate n y) hz (by simpa using hd) hx
  rw [show j / z*z+j % z=j by rw [Nat.mul_comm];exact Nat.div_add_mod j z]at this
  rw [this]
  simp [madeCells,hj,hcs]
 ·rw [List.getElem?_eq_none (by simp [madeCells];omega),List.getElem?_eq_none (by rw [flat_len hz,List.length_replicate];omega)]
end
end
section
open Go.RowKit Go.ChangeShapes Go.WideShapes Go.Deep

section
variable {H:Type} {en:TypeId×Value→H} {P:Program} {w:World} {base:Nat} {spare:Nat→Bool} {held:Bool}
end
end
section
structure Rg where
 lo:Int
 hi:Int
namespace Rg
def ok (x:Rg):Prop:=x.lo≤x.hi∧-1000000000≤x.lo∧x.hi≤1000000000
instance (x:Rg):Decidable x.ok:=by unfold ok;infer_instance
def In (x:Rg)(n:Int):Prop:=x.lo≤n∧n≤x.hi
def cup (x y:Rg):Rg:=⟨min x.lo y.lo,max x.hi y.hi⟩
def bef (x y:Rg):Prop:=x.hi+1<y.lo
end Rg
def Mem (l:List Rg)(n:Int):Prop:=∃x∈l,x.In n
def Nrm (l:List Rg):Prop:=l.Pairwise Rg.bef∧∀x∈l,x.ok
theorem mem_nil (n:Int):¬Mem [] n:=fun⟨x,h,_⟩=>by cases h
theorem mem_cons (x:Rg)(l:List Rg)(n:Int):Mem (x::l) n↔x.In n∨Mem l n:=by
 constructor
 ·rintro⟨y,hy,h⟩
  rcases List.mem_cons.1 hy with rfl|hy
  ·exact .inl h
  ·exact .inr ⟨y,hy,h⟩
 ·rintro(h|⟨y,hy,h⟩)
  ·exact⟨x,List.mem_cons_self,h⟩
  ·exact⟨y,List.mem_cons_of_mem _ hy,h⟩
theorem mem_append (a b:List Rg)(n:Int):Mem (a++b) n↔Mem a n∨Mem b n:=by
 induction a with
 | nil=>simp [mem_nil]
 | cons x r ih=>rw [List.cons_append,mem_cons,mem_cons,ih,or_assoc]
theorem mem_one (x:Rg)(n:Int):Mem [x] n↔x.In n:=by rw [mem_cons];simp [mem_nil]
theorem nrm_cons {x:Rg}{l:List Rg}(h:Nrm (x::l)):x.ok∧(∀y∈l,x.bef y)∧Nrm l:=by
 obtain⟨h1,h2⟩:=List.pairwise_cons.1 h.1
 exact⟨h.2 x List.mem_cons_self,h1,h2,fun y hy=>h.2 y (List.mem_cons_of_mem _ hy)⟩
theorem nrm_low {x:Rg}{l:List Rg}(h:Nrm (x::l)){n:Int}(hm:Mem (x::l) n):x.lo≤n:=by
 obtain⟨h1,h2,_⟩:=nrm_cons h
 rcases(mem_cons x l n).1 hm with h|⟨y,hy,h⟩
 ·exact h.1
 ·have:=h2 y hy;unfold Rg.bef at this;have:=h1.1;have:=h.1;omega
theorem nrm_gap {x:Rg}{l:List Rg}(h:Nrm (x::l)):¬Mem (x::l) (x.hi+1):=by
 obtain⟨h1,h2,_⟩:=nrm_cons h
 intro hm
 rcases(mem_cons x l _).1 hm with h|⟨y,hy,h⟩
 ·have:=h.2;omega
 ·have:=h2 y hy;unfold Rg.bef at this;have:=h.1;omega
theorem nrm_tail {x:Rg}{l:List Rg}(h:Nrm (x::l))(n:Int):Mem l n↔Mem (x::l) n∧x.hi<n:=by
 obtain⟨h1,h2,_⟩:=nrm_cons h
 constructor
 ·rintro⟨y,hy,h⟩
  refine⟨⟨y,List.mem_cons_of_mem _ hy,h⟩,?_⟩
  have:=h2 y hy;unfold Rg.bef at this;have:=h.1;omega
 ·rintro⟨hm,hlt⟩
  rcases(mem_cons x l n).1 hm with h|h
  ·have:=h.2;omega
  ·exact h
theorem nrm_unique:∀ {a b:List Rg},Nrm a→Nrm b→(∀n,Mem a n↔Mem b n)→a=b
 | [],[],_,_,_=>rfl
 | [],y::b,_,hb,h=>absurd ((h y.lo).2 ((mem_cons _ _ _).2 (.inl ⟨Int.le_refl _,(nrm_cons hb).1.1⟩))) (mem_nil _)
 | x::a,[],ha,_,h=>absurd ((h x.lo).1 ((mem_cons _ _ _).2 (.inl ⟨Int.le_refl _,(nrm_cons ha).1.1⟩))) (mem_nil _)
 | x :: a, y :: b, ha, hb, h => by
  have x1:Mem (x::a) x.lo:=(mem_cons _ _ _).2 (.inl ⟨Int.le_refl _,(nrm_cons ha).1.1⟩)
  have y1:Mem (y::b) y.lo:=(mem_cons _ _ _).2 (.inl ⟨Int.le_refl _,(nrm_cons hb).1.1⟩)
  have l1:=nrm_low hb ((h _).1 x1)
  have l2:=nrm_low ha ((h _).2 y1)
  have g1:=fun hm=>nrm_gap ha ((h _).2 hm)
  have g2:=fun hm=>nrm_gap hb ((h _).1 hm)
  have xo:=(nrm_cons ha).1.1
  have yo:=(nrm_cons hb).1.1
  have e1:x.lo=y.lo:=by omega
  have e2:x.hi=y.hi:=by
   rcases Int.lt_trichotomy x.hi y.hi with hl|he|hg
   ·exact absurd ((mem_cons _ _ _).2 (.inl ⟨by omega,by omega⟩)) g1
   ·exact he
   ·exact absurd ((mem_cons _ _ _).2 (.inl ⟨by omega,by omega⟩)) g2
  obtain⟨xl,xh⟩:=x
  obtain⟨yl,yh⟩:=y
  simp only at e1 e2
  subst e1;subst e2
  rw [nrm_unique (nrm_cons ha).2.2 (nrm_cons hb).2.2 fun n=>by rw [nrm_tail ha,nrm_tail hb,h n]]
def MemOk (l:List Rg)(n:Int):Prop:=∃x∈l,x.ok∧x.In n
theorem memOk_snoc (l:List Rg)(x:Rg)(n:Int):MemOk (l++ [x]) n↔MemOk l n∨(x.ok∧x.In n):=by
 unfold MemOk
 constructor
 ·rintro⟨y,hy,h⟩
  rcases List.mem_append.1 hy with hy|hy
  ·exact .inl ⟨y,hy,h⟩
  ·rw [List.mem_singleton.1 hy]at h;exact .inr h
 ·rintro(⟨y,hy,h⟩|h)
  ·exact⟨y,List.mem_append_left _ hy,h⟩
  ·exact⟨x,by simp,h⟩
def IsNrm (l L:List Rg):Prop:=Nrm L∧(∀n,Mem L n↔MemOk l n)∧L.length≤l.length
theorem IsNrm.one {l a b:List Rg}(ha:IsNrm l a)(hb:IsNrm l b):a=b:=nrm_unique ha.1 hb.1 fun n=>by rw [ha.2.1 n,hb.2.1 n]
structure Split (P:List Rg) (x0:Rg) (a:List Rg) (x:Rg) (b:List Rg):Prop where
 na:Nrm a
 nb:Nrm b
 okx:x.ok
 ax:∀y∈a,y.bef x
 xb:∀y∈b,x.bef y
 mem:∀n,(Mem a n∨x.In n∨Mem b n)↔(Mem P n∨x0.In n)
 len:a.length+b.length≤P.length
 past:∀q,q.ok→(∀p∈P,p.bef q)→(∀y∈a,y.bef q)∧(∀y∈b,y.bef q)
theorem Split.start {x0:Rg}(h:x0.ok):Split [] x0 [] x0 []:=
 ⟨⟨.nil,by simp⟩,⟨.nil,by simp⟩,h,by simp,by simp,fun n=>by simp [mem_nil],by simp,by simp⟩
theorem nrm_snoc {a:List Rg}{y:Rg}(h:Nrm a)(hy:y.ok)(hb:∀z∈a,z.bef y):Nrm (a++ [y]):=by
 refine⟨List.pairwise_append.2 ⟨h.1,List.pairwise_singleton _ _,fun z hz w hw=>by rw [List.mem_singleton.1 hw];exact hb z hz⟩,fun z hz=>?_⟩
 rcases List.mem_append.1 hz with hz|hz
 ·exact h.2 z hz
 ·rw [List.mem_singleton.1 hz];exact hy
theorem bef_trans {x y q:Rg}(h1:x.bef y)(hy:y.ok)(h2:y.bef q):x.bef q:=by unfold Rg.bef Rg.ok at*;omega
section
variable {P a b:List Rg} {x0 x y:Rg}
theorem Split.left (h:Split P x0 a x b)(hy:y.ok)(hP:∀p∈P,p.bef y)(hl:y.hi+1<x.lo):Split (P++ [y]) x0 (a++ [y]) x b where
 na:=nrm_snoc h.na hy (h.past y hy hP).1
 nb:=h.nb
 okx:=h.okx
 ax z hz:=by
  rcases List.mem_append.1 hz with hz|hz
  ·exact h.ax z hz
  ·rw [List.mem_singleton.1 hz];exact hl
 xb:=h.xb
 mem n:=by rw [mem_append,mem_append,mem_one];have:=h.mem n;grind
 len:=by have:=h.len;simp;omega
 past q hq hp:=by
  have hyq:y.bef q:=hp y (by simp)
  have h1:=h.past q hq fun p hp'=>hp p (List.mem_append_left _ hp')
  refine⟨fun z hz=>?_,h1.2⟩
  rcases List.mem_append.1 hz with hz|hz
  ·exact h1.1 z hz
  ·rw [List.mem_singleton.1 hz];exact hyq
theorem Split.right (h:Split P x0 a x b)(hy:y.ok)(hP:∀p∈P,p.bef y)(hr:x.hi+1<y.lo):Split (P++ [y]) x0 a x (b++ [y]) where
 na:=h.na
 nb:=nrm_snoc h.nb hy (h.past y hy hP).2
 okx:=h.okx
 ax:=h.ax
 xb z hz:=by
  rcases List.mem_append.1 hz with hz|hz
  ·exact h.xb z hz
  ·rw [List.mem_singleton.1 hz];exact hr
 mem n:=by rw [mem_append,mem_append,mem_one];have:=h.mem n;grind
 len:=by have:=h.len;simp;omega
 past q hq hp:=by
  have hyq:y.bef q:=hp y (by simp)
  have h1:=h.past q hq fun p hp'=>hp p (List.mem_append_left _ hp')
  refine⟨h1.1,fun z hz=>?_⟩
  rcases List.mem_append.1 hz with hz|hz
  ·exact h1.2 z hz
  ·rw [List.mem_singleton.1 hz];exact hyq
theorem cup_ok (hx:x.ok)(hy:y.ok):(x.cup y).ok:=by unfold Rg.ok Rg.cup at*;simp only;omega
theorem cup_in (hl:¬y.hi+1<x.lo)(hr:¬x.hi+1<y.lo)(n:Int):(x.cup y).In n↔(x.In n∨y.In n):=by
 unfold Rg.In Rg.cup;simp only;omega
theorem Split.both (h:Split P x0 a x b)(hy:y.ok)(hP:∀p∈P,p.bef y)(hl:¬y.hi+1<x.lo)(hr:¬x.hi+1<y.lo):Split (P++ [y]) x0 a (x.cup y) b where
 na:=h.na
 nb:=h.nb
 okx:=cup_ok h.okx hy
 ax z hz:=by
  have h1:=h.ax z hz
  have h2:=(h.past y hy hP).1 z hz
  unfold Rg.bef Rg.cup at*;simp only;omega
 xb z hz:=by
  have h1:=h.xb z hz
  have h2:=(h.past y hy hP).2 z hz
  have h3:=hy.1
  have h4:=(h.nb.2 z hz).1
  unfold Rg.bef Rg.cup at*;simp only;omega
 mem n:=by rw [cup_in hl hr,mem_append,mem_one];have:=h.mem n;grind
 len:=by have:=h.len;simp;omega
 past q hq hp:=h.past q hq fun p hp'=>hp p (List.mem_append_left _ hp')
theorem Split.done (h:Split P x0 a x b):Nrm (a++ [x]++b)∧(∀n,Mem (a++ [x]++b) n↔Mem P n∨x0.In n)∧(a++ [x]++b).length≤P.length+1:=by
 refine⟨⟨List.pairwise_append.2 ⟨(nrm_snoc h.na h.okx h.ax).1,h.nb.1,fun y hy z hz=>?_⟩,fun y hy=>?_⟩,fun n=>?_,by have:=h.len;simp;omega⟩
 ·rcases List.mem_append.1 hy with hy|hy
  ·exact bef_trans (h.ax y hy) h.okx (h.xb z hz)
  ·rw [List.mem_singleton.1 hy];exact h.xb z hz
 ·rcases List.mem_append.1 hy with hy|hy
  ·exact(nrm_snoc h.na h.okx h.ax).2 y hy
  ·exact h.nb.2 y hy
 ·rw [mem_append,mem_append,mem_one,or_assoc];exact h.mem n
end
theorem nrm_get {l:List Rg}(h:Nrm l){i:Nat}(hi:i<l.length):l[i].ok∧∀p∈l.take i,p.bef l[i]:=by
 refine⟨h.2 _ (List.getElem_mem hi),fun p hp=>?_⟩
 obtain⟨j,hj,rfl⟩:=List.getElem_of_mem hp
 rw [List.length_take]at hj
 rw [List.getElem_take]
 exact(List.pairwise_iff_getElem.1 h.1) j i (by omega) hi (by omega)
theorem Split.all {x0:Rg}(h0:x0.ok):∀ {L P:List Rg} {a b:List Rg} {x:Rg},Split P x0 a x b→Nrm (P++L)→∃a' x' b',Split (P++L) x0 a' x' b'
 | [],P,a,b,x,h,_=>⟨a,x,b,by rw [List.append_nil];exact h⟩
 | y :: L, P, a, b, x, h, hn => by
  have hy:y.ok:=hn.2 y (by simp)
  have hP:∀p∈P,p.bef y:=fun p hp=>(List.pairwise_append.1 hn.1).2.2 p hp y (by simp)
  have e:P++y::L=(P++ [y])++L:=by simp
  rw [e]at hn ⊢
  by_cases hl:y.hi+1<x.lo
  ·exact Split.all h0 (h.left hy hP hl) hn
  ·by_cases hr:x.hi+1<y.lo
   ·exact Split.all h0 (h.right hy hP hr) hn
   ·exact Split.all h0 (h.both hy hP hl hr) hn
theorem isNrm_nil:IsNrm [] []:=⟨⟨.nil,by simp⟩,fun n=>by simp [mem_nil,MemOk],by simp⟩
theorem IsNrm.put {l L a b:List Rg}{x0 x:Rg}(h:IsNrm l L)(hs:Split L x0 a x b)(ho:x0.ok):IsNrm (l++ [x0]) (a++ [x]++b):=by
 obtain⟨h1,h2,h3⟩:=hs.done
 refine⟨h1,fun n=>?_,by have:=h.2.2;simp at h3 ⊢;omega⟩
 rw [h2,memOk_snoc,h.2.1 n]
 simp [ho]
theorem IsNrm.skip {l L:List Rg}{x0:Rg}(h:IsNrm l L)(ho:¬x0.ok):IsNrm (l++ [x0]) L:=by
 refine⟨h.1,fun n=>?_,by have:=h.2.2;simp;omega⟩
 rw [memOk_snoc,h.2.1 n]
 simp [ho]
theorem isNrm_exists (l:List Rg):∃L,IsNrm l L:=by
 have key:∀(m:List Rg),∃L,IsNrm m.reverse L:=fun m=>by
  induction m with
  | nil=>exact⟨[],isNrm_nil⟩
  | cons x r ih =>
   obtain⟨L,hL⟩:=ih
   rw [List.reverse_cons]
   by_cases ho:x.ok
   ·obtain⟨a,y,b,hs⟩:=Split.all ho (Split.start ho) (L:=L) (by simpa using hL.1)
    exact⟨_,hL.put (by simpa using hs) ho⟩
   ·exact⟨L,hL.skip ho⟩
 have:=key l.reverse
 rwa [List.reverse_reverse]at this
noncomputable def normS (l:List Rg):List Rg:=Classical.choose (isNrm_exists l)
theorem normS_is (l:List Rg):IsNrm l (normS l):=Classical.choose_spec (isNrm_exists l)
theorem IsNrm.eq {l L:List Rg}(h:IsNrm l L):L=normS l:=h.one (normS_is l)
theorem normS_length (l:List Rg):(normS l).length≤l.length:=(normS_is l).2.2
def Rg.cap (x y:Rg):Rg:=⟨max x.lo y.lo,min x.hi y.hi⟩
def meets (a b:List Rg):List Rg:=a.flatMap fun x=>b.map x.cap
noncomputable def meetS (a b:List Rg):List Rg:=if a.length=0 then normS b else if b.length=0 then normS a else normS (meets a b)
theorem meets_length (a b:List Rg):(meets a b).length=a.length*b.length:=by
 unfold meets
 induction a with
 | nil=>simp
 | cons x r ih=>rw [List.flatMap_cons,List.length_append,ih,List.length_map,List.length_cons,Nat.succ_mul];omega
structure Joined (P J:List Rg):Prop where
 nj:Nrm J
 mem:∀n,Mem J n↔Mem P n
 len:J.length≤P.length
 low:∀y∈J,∃p∈P,p.lo=y.lo
theorem Joined.start:Joined [] []:=⟨⟨.nil,by simp⟩,fun n=>Iff.rfl,by simp,by simp⟩
theorem Joined.add {P J:List Rg}{r:Rg}(h:Joined P J)(hr:r.ok)(hJ:∀y∈J,y.bef r):Joined (P++ [r]) (J++ [r]) where
 nj:=nrm_snoc h.nj hr hJ
 mem n:=by rw [mem_append,mem_append,h.mem n]
 len:=by have:=h.len;simp;omega
 low y hy:=by
  rcases List.mem_append.1 hy with hy|hy
  ·obtain⟨p,h1,h2⟩:=h.low y hy;exact⟨p,List.mem_append_left _ h1,h2⟩
  ·rw [List.mem_singleton.1 hy];exact⟨r,by simp,rfl⟩
theorem Joined.far {P K:List Rg}{z r:Rg}(h:Joined P (K++ [z]))(hz:¬r.lo≤z.hi+1):∀y∈K++ [z],y.bef r:=fun y hy=>by
 rcases List.mem_append.1 hy with hy|hy
 ·have h1:=(List.pairwise_append.1 h.nj.1).2.2 y hy z (by simp)
  exact bef_trans h1 (h.nj.2 z (by simp)) (by unfold Rg.bef;omega)
 ·rw [List.mem_singleton.1 hy];unfold Rg.bef;omega
theorem Joined.grow {P K:List Rg}{z r:Rg}(h:Joined P (K++ [z]))(hr:r.ok)(hP:∀p∈P,p.lo≤r.lo)(hz:r.lo≤z.hi+1):Joined (P++ [r]) (K++ [⟨z.lo,max z.hi r.hi⟩]):=by
 have hzo:z.ok:=h.nj.2 z (by simp)
 have hzr:z.lo≤r.lo:=by
  obtain⟨p,hp,he⟩:=h.low z (by simp)
  have:=hP p hp;omega
 have hp:=List.pairwise_append.1 h.nj.1
 refine⟨nrm_snoc ⟨hp.1,fun y hy=>h.nj.2 y (List.mem_append_left _ hy)⟩ (by unfold Rg.ok at*;simp only;omega) (fun y hy=>?_),fun n=>?_,by have:=h.len;simp at this ⊢;omega,fun y hy=>?_⟩
 ·have:=hp.2.2 y hy z (by simp);unfold Rg.bef at*;exact this
 ·have h1:=h.mem n
  rw [mem_append,mem_one]at h1 ⊢
  rw [mem_append,mem_one,←h1]
  have:(⟨z.lo,max z.hi r.hi⟩:Rg).In n↔(z.In n∨r.In n):=by unfold Rg.ok Rg.In at*;simp only;omega
  rw [this,or_assoc]
 ·rcases List.mem_append.1 hy with hy|hy
  ·obtain⟨p,h1,h2⟩:=h.low y (List.mem_append_left _ hy);exact⟨p,List.mem_append_left _ h1,h2⟩
  ·rw [List.mem_singleton.1 hy]
   obtain⟨p,h1,h2⟩:=h.low z (by simp)
   exact⟨p,List.mem_append_left _ h1,h2⟩
theorem Joined.isNrm {l S J:List Rg}(h:Joined S J)(hp:S.Perm (l.filter fun x=>decide x.ok)):IsNrm l J:=by
 refine⟨h.nj,fun n=>?_,?_⟩
 ·rw [h.mem n]
  constructor
  ·rintro⟨x,hx,hn⟩
   have:=(hp.mem_iff).1 hx
   simp at this
   exact⟨x,this.1,this.2,hn⟩
  ·rintro⟨x,hx,ho,hn⟩
   exact⟨x,(hp.mem_iff).2 (by simp [hx,ho]),hn⟩
 ·have h1:=h.len
  rw [hp.length_eq]at h1
  exact Nat.le_trans h1 (List.length_filter_le _ _)
end
section
open Go.RowKit

def u8v (c:UInt8):Value:=.int .u8 (c.toNat:Int)
theorem infoU8:(Tryz.prog.info? 5).map (fun i=>(i.zero,i.size,i.bytes))=some (some (.int .u8 0),1,1):=by kernel_rfl
def Buf (B:Nat)(v:Value)(l:List UInt8)(W0 w:World):Prop:=Lib.OwnBuf B 5 v l.length (l.map u8v) W0 w
theorem Buf.drewN {B:Nat}{v:Value}{l:List UInt8}{W0 w:World}(h:Buf B v l W0 w)(q:Nat):Buf B v l W0 (w.drewN q):=Lib.OwnBuf.drewN h q
theorem Buf.below {B:Nat}{v:Value}{l:List UInt8}{W0 w:World}(h:Buf B v l W0 w):Below B W0 w:=h.2.1
theorem buf_none {w0 w:World}(h:Below w0.heap.size w0 w):Buf w0.heap.size (.slice (some ⟨w.heap.size,0,none⟩) 0 0) [] w0 (w.alloc (.cells #[] 5)):=
 ⟨⟨rfl,.inr ⟨w.heap.size,0,#[],(0,0),rfl,h.size,heap_alloc_new w _,by simp,by simp,by simp,rfl,rfl⟩⟩,h.alloc h.size _,(h.alloc h.size _).size⟩
theorem buf_one {w0 w:World}(h:Below w0.heap.size w0 w)(b:UInt8){c:Int}(hc:(b.toNat:Int)=c):Buf w0.heap.size (.slice (some ⟨w.heap.size,0,none⟩) 1 1) [b] w0 (w.alloc (.cells #[.int .u8 c] 5)):=
 ⟨⟨rfl,.inr ⟨w.heap.size,1,#[.int .u8 c],(0,0),rfl,h.size,heap_alloc_new w _,by simp,by simp,by unfold maxLen;omega,rfl,by subst hc;rfl⟩⟩,h.alloc h.size _,(h.alloc h.size _).size⟩
theorem buf_append {ops:Array Oper}{rest:List Oper}{o:Oper}{a:Act}{Q:Exit→Act→World→Prop}(hgd:o.guard=none)(s x:Operand)
  (ho:o.op=.call { callee:=.builtin .append,args:=#[s,x],argTypes:=#[22,22] })
  (B:Nat) (v:Value) (l:List UInt8) (hs:a.eval s=v) (W0 w0:World) (c:Int) (hb:Buf B v l W0 w0)
  (hx:a.eval x=.slice (some ⟨w0.heap.size,0,none⟩) 1 1) (b:UInt8) (hc:(b.toNat:Int)=c) (hlen:l.length+1≤140737488355328)
  (h:∀v' w',Buf B v' (l++ [b]) W0 w'→wpList Tryz.prog ops Q rest (a.put o.dst v') w'):wpList Tryz.prog ops Q (o::rest) a (w0.alloc (.cells #[.int .u8 c] 5)):=by
 obtain⟨i0,hi,hz0,hz1,hz2⟩:=info_parts infoU8
 refine Lib.wpList_append_byte hgd s x 22 ho B 5 i0 Tryz.underlying22 hi hz0 hz1 hz2 v l.length (l.map u8v) hs W0 w0 c hb hx hlen ?_
 intro v' w' h'
 refine h v' w' ?_
 subst hc
 unfold Buf
 rw [List.length_append,List.map_append]
 exact h'
theorem buf_str {B:Nat}{v:Value}{l:List UInt8}{W0 w:World}(h:Buf B v l W0 w):(convert 22 9 v).run Tryz.prog w=.ok (.string ⟨l.toArray⟩) w:=by
 rcases h.1.2 with ⟨rfl,h0⟩|⟨g,cap,cur,fz,rfl,hrest⟩
 ·have hl:l=[]:=List.length_eq_zero_iff.1 h0
  subst hl
  rw [run_convert_bytes_string w 22 9 5 none 0 0 Tryz.underlying22 Tryz.underlying5 Tryz.underlying9]
  rfl
 ·refine run_convert_bytes_back (P:=Tryz.prog) w 22 9 5 ⟨g,0,none⟩ cap l Tryz.underlying22 Tryz.underlying5 Tryz.underlying9 (fun j hj=>h.1.cells (g:=g) rfl j _ (by
   rw [List.getElem?_map,List.getElem?_eq_getElem hj];rfl))
end
section
open Go.RowKit

def Rg.enc (x:Rg):List Value:=[.int .i64 x.lo,.int .i64 x.hi]
instance:Inhabited Rg:=⟨⟨0,0⟩⟩
theorem Rg.enc_len (x:Rg):x.enc.length=2:=rfl
abbrev HasG (w:World)(v:Value)(l:List Rg):Prop:=HasR Rg.enc 2 w v l
abbrev RowG (B:Nat)(w:World)(v:Value)(l:List Rg):Prop:=RowR Rg.enc 2 80 B w v l
theorem RowR.hasG {B:Nat}{w:World}{v:Value}{l:List Rg}(h:RowG B w v l):HasG w v l:=RowR.has Rg.enc_len h
def Gk (w:World)(p:Addr)(x:Rg):Prop:=w.cell? p=some (.int .i64 x.lo)∧w.cell? ⟨p.block,p.off+1,none⟩=some (.int .i64 x.hi)
theorem Gk.below {w w':World}{p:Addr}{x:Rg}(h:Gk w p x)(hb:Below w.heap.size w w')(hp:p.block<w.heap.size):Gk w' p x:=
 ⟨by rw [hb.cell hp];exact h.1,by rw [hb.cell (p:=⟨p.block,p.off+1,none⟩) hp];exact h.2⟩
theorem HasG.gk {w:World}{A:Option Addr}{l:List Rg}(h:∀i (h:i<l.length),∃a,A=some a∧a.block<w.heap.size∧∀j x,(l[i].enc)[j]? =some x→w.cell? ((a.add (i*2)).add j)=some x)(k:Nat)(hk:k<l.length):
  ∃a,A=some a∧(a.add (k*2)).block<w.heap.size∧Gk w (a.add (k*2)) l[k]:=by
 obtain⟨a,ha,hb,hc⟩:=h k hk
 exact⟨a,ha,by rw [addr_blk];exact hb,hc 0 _ rfl,hc 1 _ rfl⟩
theorem infoRng:(Tryz.prog.info? 80).map (fun i=>(i.zero,i.size,i.bytes))=some (some (.agg #[.int .i64 0,.int .i64 0]),2,16):=by kernel_rfl
theorem RowG.put0 {B g n cap:Nat}{w:World}{L:List Rg}(h:RowG B w (.slice (some ⟨g,0,none⟩) n cap) L){i:Nat}(hi:i<L.length)(k:Int):
  RowG B (w.setCell ⟨g,i*2,none⟩ (.int .i64 k)) (.slice (some ⟨g,0,none⟩) n cap) (L.set i ⟨k,L[i].hi⟩)∧w.grownBy (w.setCell ⟨g,i*2,none⟩ (.int .i64 k)) (some g):=
 RowR.set1 Rg.enc_len h hi 0 (by omega) _ _ rfl
theorem RowG.put1 {B g n cap:Nat}{w:World}{L:List Rg}(h:RowG B w (.slice (some ⟨g,0,none⟩) n cap) L){i:Nat}(hi:i<L.length)(k:Int):
  RowG B (w.setCell ⟨g,i*2+1,none⟩ (.int .i64 k)) (.slice (some ⟨g,0,none⟩) n cap) (L.set i ⟨L[i].lo,k⟩)∧w.grownBy (w.setCell ⟨g,i*2+1,none⟩ (.int .i64 k)) (some g):=
 RowR.set1 Rg.enc_len h hi 1 (by omega) _ _ rfl
theorem RowG.put {B g n cap:Nat}{w:World}{L:List Rg}(h:RowG B w (.slice (some ⟨g,0,none⟩) n cap) L){i:Nat}(hi:i<L.length)(x:Rg):
  RowG B ((w.setCell ⟨g,i*2,none⟩ (.int .i64 x.lo)).setCell ⟨g,i*2+1,none⟩ (.int .i64 x.hi)) (.slice (some ⟨g,0,none⟩) n cap) (L.set i x)∧
  w.grownBy ((w.setCell ⟨g,i*2,none⟩ (.int .i64 x.lo)).setCell ⟨g,i*2+1,none⟩ (.int .i64 x.hi)) (some g):=by
 have h0:=h.put0 hi x.lo
 have h1:=RowG.put1 h0.1 (i:=i) (by simpa using hi) x.hi
 refine⟨?_,h0.2.trans h1.2⟩
 have:=h1.1
 simpa [List.set_set]using this
theorem RowG.cells {B g n cap:Nat}{w:World}{L:List Rg}(h:RowG B w (.slice (some ⟨g,0,none⟩) n cap) L){i:Nat}(hi:i<L.length):
  (w.cell? ⟨g,i*2,none⟩=some (.int .i64 L[i].lo)∧w.cell? ⟨g,i*2+1,none⟩=some (.int .i64 L[i].hi))∧
  w.frozen? ⟨g,i*2,none⟩=false∧w.frozen? ⟨g,i*2+1,none⟩=false:=
 ⟨⟨RowR.cell Rg.enc_len h hi (j:=0) rfl,RowR.cell Rg.enc_len h hi (j:=1) rfl⟩,RowR.frozen h _,RowR.frozen h _⟩
theorem wpList_rng_append {ops:Array Oper}{rest:List Oper}{o:Oper}{a:Act}{Q:Exit→Act→World→Prop}{w:World}(hgd:o.guard=none)(s x:Operand)
  (ho:o.op=.call { callee:=.builtin .append,args:=#[s,x],argTypes:=#[24,24] })
  (B g n c:Nat) (L:List Rg) (hs:a.eval s=.slice (some ⟨g,0,none⟩) n c) (hrow:RowG B w (.slice (some ⟨g,0,none⟩) n c) L)
  (y:Rg) (b:Nat) (hx:a.eval x=.slice (some ⟨b,0,none⟩) 1 1) (hb:b=w.heap.size) (hlen:n+1≤549755813888) (hbase:B≤w.heap.size) (q:Nat) (hq:q=n+1)
  (h:∀g' c'' w',RowG B w' (.slice (some ⟨g',0,none⟩) q c'') (L++ [y])→(w.alloc (.cells #[.int .i64 y.lo,.int .i64 y.hi] 80)).grownBy w' (some g)→wpList Tryz.prog ops Q rest (a.put o.dst (.slice (some ⟨g',0,none⟩) q c'')) w'):
  wpList Tryz.prog ops Q (o::rest) a (w.alloc (.cells #[.int .i64 y.lo,.int .i64 y.hi] 80)):=by
 obtain⟨i0,hi,hz0,hz1,hz2⟩:=info_parts infoRng
 have hnL:=RowR.cap' hrow
 subst hq
 subst hnL
 subst hb
 refine wpList_append_own _ hgd s x 24 ho B 80 i0 (.agg #[.int .i64 0,.int .i64 0]) 2 16 Tryz.underlying24 hi hz0 hz1 hz2 rfl (by decide) _ L.length (L.flatMap Rg.enc) hs (RowR.alloc hrow _) ⟨w.heap.size,0,none⟩ 1 1 y.enc hx rfl (World.news_of_block (heap_alloc_new w _)) (by simp [Rg.enc,Value.oneCell']) (by unfold maxLen;omega) (by omega) (Nat.le_trans hbase ((Below.refl 0 w).alloc (Nat.zero_le _) _).size) ?_
 intro v' w' h2 h3 h4
 rcases h2.2 with ⟨h5,_⟩|⟨g',cap',cur,h5,_⟩
 ·exact absurd (h4.1 h5).1 (by simp)
 ·subst h5
  refine h g' cap' w' ?_ h3
  unfold RowG RowR
  rw [List.length_append,List.flatMap_append,List.flatMap_singleton]
  exact h2
theorem rowG_new (w:World)(B:Nat)(h:B≤w.heap.size):RowG B (w.alloc (.cells #[] 80)) (.slice (some ⟨w.heap.size,0,none⟩) 0 0) []:=rowR_empty (heap_alloc_new w _) h
theorem wpList_rng_append_at {ops:Array Oper}{rest:List Oper}{o:Oper}{a:Act}{Q:Exit→Act→World→Prop}{w:World}(hgd:o.guard=none)(s x:Operand)
  (ho:o.op=.call { callee:=.builtin .append,args:=#[s,x],argTypes:=#[24,24] })
  (B g n c:Nat) (L:List Rg) (hs:a.eval s=.slice (some ⟨g,0,none⟩) n c) (hrow:RowG B w (.slice (some ⟨g,0,none⟩) n c) L)
  (y:Rg) (b:Nat) (hx:a.eval x=.slice (some ⟨b,0,none⟩) 1 1) (hb:b=w.heap.size) (hlen:n+1≤549755813888) (hbase:B≤w.heap.size) (q:Nat) (hq:q=n+1)
  (h:∀g' c'' w',RowG B w' (.slice (some ⟨g',0,none⟩) q c'') (L++ [y])→(w.alloc (.cells #[.int .i64 y.lo,.int .i64 y.hi] 80)).grownBy w' (some g)→(g'=g∨w.heap.size<g')→wpList Tryz.prog ops Q rest (a.put o.dst (.slice (some ⟨g',0,none⟩) q c'')) w'):
  wpList Tryz.prog ops Q (o::rest) a (w.alloc (.cells #[.int .i64 y.lo,.int .i64 y.hi] 80)):=by
 obtain⟨i0,hi,hz0,hz1,hz2⟩:=info_parts infoRng
 have hnL:=RowR.cap' hrow
 subst hq
 subst hnL
 subst hb
 refine wpList_append_own_at _ hgd s x 24 ho B 80 i0 (.agg #[.int .i64 0,.int .i64 0]) 2 16 Tryz.underlying24 hi hz0 hz1 hz2 rfl (by decide) _ L.length (L.flatMap Rg.enc) hs (RowR.alloc hrow _) ⟨w.heap.size,0,none⟩ 1 1 y.enc hx rfl (World.news_of_block (heap_alloc_new w _)) (by simp [Rg.enc,Value.oneCell']) (by unfold maxLen;omega) (by omega) (Nat.le_trans hbase ((Below.refl 0 w).alloc (Nat.zero_le _) _).size) ?_
 intro v' w' h2 h3 h4 h6
 rcases h2.2 with ⟨h5,_⟩|⟨g',cap',cur,h5,_⟩
 ·exact absurd (h4.1 h5).1 (by simp)
 ·subst h5
  refine h g' cap' w' ?_ h3 ?_
  ·unfold RowG RowR
   rw [List.length_append,List.flatMap_append,List.flatMap_singleton]
   exact h2
  ·rcases h6 with h6|h6
   ·exact .inl (Option.some.inj h6)
   ·have h7:g'=(w.alloc (.cells #[.int .i64 y.lo,.int .i64 y.hi] 80)).heap.size:=Option.some.inj h6
    exact .inr (by rw [h7];simp)
theorem wpList_rng_appends {ops:Array Oper}{rest:List Oper}{o:Oper}{a:Act}{Q:Exit→Act→World→Prop}{w:World}(hgd:o.guard=none)(s x:Operand)
  (ho:o.op=.call { callee:=.builtin .append,args:=#[s,x],argTypes:=#[24,24] })
  (B g n c:Nat) (L:List Rg) (hs:a.eval s=.slice (some ⟨g,0,none⟩) n c) (hrow:RowG B w (.slice (some ⟨g,0,none⟩) n c) L)
  (B2 g2 n2 c2:Nat) (L2:List Rg) (hx:a.eval x=.slice (some ⟨g2,0,none⟩) n2 c2) (hrow2:RowG B2 w (.slice (some ⟨g2,0,none⟩) n2 c2) L2)
  (h0:0<n) (hlen:n+n2≤549755813888) (hbase:B≤w.heap.size) (q:Nat) (hq:q=n+n2)
  (h:∀g' c'' w',RowG B w' (.slice (some ⟨g',0,none⟩) q c'') (L++L2)→w.grownBy w' (some g)→wpList Tryz.prog ops Q rest (a.put o.dst (.slice (some ⟨g',0,none⟩) q c'')) w'):
  wpList Tryz.prog ops Q (o::rest) a w:=by
 obtain⟨i0,hi,hz0,hz1,hz2⟩:=info_parts infoRng
 have hnL:=RowR.cap' hrow
 have hnL2:=RowR.cap' hrow2
 subst hq
 subst hnL
 subst hnL2
 refine wpList_append_own _ hgd s x 24 ho B 80 i0 (.agg #[.int .i64 0,.int .i64 0]) 2 16 Tryz.underlying24 hi hz0 hz1 hz2 rfl (by decide) _ L.length (L.flatMap Rg.enc) hs hrow ⟨g2,0,none⟩ L2.length c2 (L2.flatMap Rg.enc) hx (flat_len Rg.enc_len L2) (World.ownsRow.cells hrow2 (g:=g2) rfl) (fun u hu=>by obtain⟨y,_,hy⟩:=List.mem_flatMap.1 hu;simp [Rg.enc]at hy;rcases hy with rfl|rfl<;>rfl) (by unfold maxLen;omega) (by omega) hbase ?_
 intro v' w' h2 h3 h4
 rcases h2.2 with ⟨h5,_⟩|⟨g',cap',cur,h5,_⟩
 ·exact absurd (h4.1 h5).1 (by simp)
 ·subst h5
  refine h g' cap' w' ?_ h3
  unfold RowG RowR
  rw [List.length_append,List.flatMap_append]
  exact h2
theorem step_rng_append {w:World}{ops:Array Oper}{o:Oper}{a:Act}{K:Act→World→Prop}{Q:Exit→Act→World→Prop}{E:Prop}(hgd:o.guard=none)(s x:Operand)
  (ho:o.op=.call { callee:=.builtin .append,args:=#[s,x],argTypes:=#[24,24] })
  (B g n c:Nat) (L:List Rg) (hs:a.eval s=.slice (some ⟨g,0,none⟩) n c) (hrow:RowG B w (.slice (some ⟨g,0,none⟩) n c) L)
  (y:Rg) (ad:Addr) (c':Nat) (hx:a.eval x=.slice (some ad) 1 c') (hnews:∀j u,y.enc[j]? =some u→w.cell? (ad.add j)=some u)
  (hlen:n+1≤549755813888) (hbase:B≤w.heap.size) (q:Nat) (hq:q=n+1)
  (h:∀g' c'' w',RowG B w' (.slice (some ⟨g',0,none⟩) q c'') (L++ [y])→w.grownBy w' (some g)→(g'=g∨g'=w.heap.size)→K (a.put o.dst (.slice (some ⟨g',0,none⟩) q c'')) w'):
  if Region.wanted o (yielded ops a.tmps)=true then Oper.wp Tryz.prog o a w K Q else E:=by
 have hw:Region.wanted o (yielded ops a.tmps)=true:=by simp [Region.wanted,hgd]
 rw [if_pos hw]
 obtain⟨i0,hi,hz0,hz1,hz2⟩:=info_parts infoRng
 have hnL:=RowR.cap' hrow
 subst hq
 subst hnL
 obtain⟨v',w',hr,h2,h3,h4,h5⟩:=run_append_own_at (P:=Tryz.prog) w B 24 o.type 80 i0 (.agg #[.int .i64 0,.int .i64 0]) 2 16 Tryz.underlying24 hi hz0 hz1 hz2 rfl (by decide) _ L.length (L.flatMap Rg.enc) hrow ad 1 c' y.enc rfl hnews (by simp [Rg.enc,Value.oneCell']) (by unfold maxLen;omega) (by omega) hbase
 unfold Oper.wp execOp
 simp only [ho,resolve,invoke,builtin,Sem.run_bind,Sem.run_pure,Result.andThen_ok,List.map_toArray,List.map_cons,List.map_nil,hs,hx,hr]
 rcases h2.2 with ⟨h6,_⟩|⟨g',cap',cur,h6,_⟩
 ·exact absurd (h4.1 h6).1 (by simp)
 ·subst h6
  refine h g' cap' w' ?_ h3 ?_
  ·unfold RowG RowR
   rw [List.length_append,List.flatMap_append,List.flatMap_singleton]
   exact h2
  ·rcases h5 with h5|h5
   ·exact .inl (Option.some.inj h5)
   ·exact .inr (Option.some.inj h5)
theorem news_rng (w:World)(y:Rg)(t:TypeId):∀j u,y.enc[j]? =some u→(w.alloc (.cells #[.int .i64 y.lo,.int .i64 y.hi] t)).cell? ((⟨w.heap.size,0,none⟩:Addr).add j)=some u:=World.news_of_block (heap_alloc_new w _)
theorem rowG_box (w:World)(x:Rg)(B:Nat)(h:B≤w.heap.size):RowG B (w.alloc (.cells #[.int .i64 x.lo,.int .i64 x.hi] 80)) (.slice (some ⟨w.heap.size,0,none⟩) 1 1) [x]:=
 ⟨by simp [Rg.enc],.inr ⟨w.heap.size,1,#[.int .i64 x.lo,.int .i64 x.hi],rfl,h,heap_alloc_new w _,by simp,by unfold maxLen;omega,by simp,by simp [Rg.enc]⟩⟩
theorem RowG.box {B g n c:Nat}{w:World}{x:Rg}(h:RowG B w (.slice (some ⟨g,0,none⟩) n c) [x]):
  w.cell? ⟨g,0,none⟩=some (.int .i64 x.lo)∧w.cell? ⟨g,1,none⟩=some (.int .i64 x.hi)∧w.frozen? ⟨g,0,none⟩=false∧w.frozen? ⟨g,1,none⟩=false:=by
 have:=RowG.cells h (i:=0) (by simp)
 exact⟨this.1.1,this.1.2,this.2.1,this.2.2⟩
theorem RowG.boxPut {B g n c:Nat}{w:World}{x:Rg}(h:RowG B w (.slice (some ⟨g,0,none⟩) n c) [x])(y:Rg):
  RowG B ((w.setCell ⟨g,0,none⟩ (.int .i64 y.lo)).setCell ⟨g,1,none⟩ (.int .i64 y.hi)) (.slice (some ⟨g,0,none⟩) n c) [y]∧w.grownBy ((w.setCell ⟨g,0,none⟩ (.int .i64 y.lo)).setCell ⟨g,1,none⟩ (.int .i64 y.hi)) (some g):=RowG.put h (i:=0) (by simp) y
theorem RowR.apart {α:Type}{enc:α→List Value}{z E B g n c j:Nat}{w w':World}{l:List α}(h:RowR enc z E B w (.slice (some ⟨g,0,none⟩) n c) l)(hg:w.grownBy w' (some j))(hne:g≠j):RowR enc z E B w' (.slice (some ⟨g,0,none⟩) n c) l:=
 RowR.other (u:=.slice (some ⟨j,0,none⟩) 0 0) h hg (fun k hk e=>hne ((Option.some.inj hk).trans (Option.some.inj e).symm))
theorem box2 {w w1:World}{v0 v1:Value}{t:TypeId}(h:Below (w.alloc (.cells #[v0,v1] t)).heap.size (w.alloc (.cells #[v0,v1] t)) w1):
  w1.cell? ⟨w.heap.size,0,none⟩=some v0∧w1.cell? ⟨w.heap.size,1,none⟩=some v1:=by
 have hn:=World.news_of_block (cs:=#[v0,v1]) (t:=t) (fr:=(0,0)) (heap_alloc_new w _)
 have hl:w.heap.size<(w.alloc (.cells #[v0,v1] t)).heap.size:=by simp
 refine⟨?_,?_⟩
 ·rw [h.cell (p:=⟨w.heap.size,0,none⟩) hl,←addr_zero];exact hn 0 v0 rfl
 ·rw [h.cell (p:=⟨w.heap.size,1,none⟩) hl,←addr_zero];exact hn 1 v1 rfl
end
section
open Go.RowKit Go.ChangeShapes Go.WideShapes Go.Deep Go.Joins

def RgWf (x:Rg):Prop:=-9223372036854775808≤x.lo∧x.lo≤9223372036854775807∧-9223372036854775808≤x.hi∧x.hi≤9223372036854775807
end
section
open Go.RowKit

theorem infoStr:(Tryz.prog.info? 9).map (fun i=>(i.zero,i.size,i.bytes))=some (some (.string ⟨#[]⟩),1,16):=by kernel_rfl
def Has (w:World)(v:Value)(l:List ByteArray):Prop:=
  ∃(A:Option Addr) (cap:Nat),v=.slice A l.length cap∧l.length≤9223372036854775807∧∀i (h:i<l.length),∃a,A=some a∧a.block<w.heap.size∧w.cell? (a.add i)=some (.string l[i])
def Row (B:Nat)(w:World)(v:Value)(l:List ByteArray):Prop:=w.ownsRow B 9 1 v l.length (l.map Value.string)
theorem add_blk (a:Addr)(j:Nat):(a.add j).block=a.block:=by unfold Addr.add;split<;>rfl
theorem add_zero (g j:Nat):(⟨g,0,none⟩:Addr).add j=⟨g,j,none⟩:=by
  unfold Addr.add;split
  · subst_vars;rfl
  · simp
theorem Has.below {w w':World}{v:Value}{l:List ByteArray}(h:Has w v l)(hb:Below w.heap.size w w'):Has w' v l:=by
  obtain⟨A,cap,hv,hn,h⟩:=h
  refine⟨A,cap,hv,hn,fun i hi=>?_⟩
  obtain⟨a,h1,h2,h3⟩:=h i hi
  exact⟨a,h1,Nat.lt_of_lt_of_le h2 hb.size,by rw [hb.cell (by rw [add_blk];exact h2)];exact h3⟩
theorem Row.cell {B:Nat}{w:World}{l:List ByteArray}{g cap n:Nat}(h:Row B w (.slice (some ⟨g,0,none⟩) n cap) l){i:Nat}(hi:i<l.length):w.cell? ⟨g,i,none⟩=some (.string l[i]):=by
  have:=h.cells (g:=g) rfl i (.string l[i]) (by rw [List.getElem?_map,List.getElem?_eq_getElem hi];rfl)
  rwa [add_zero]at this
theorem Row.len {B:Nat}{w:World}{v:Value}{l:List ByteArray}(h:Row B w v l):l.length≤9223372036854775807:=by
  rcases h.2 with ⟨_,h0⟩|⟨g,cap,cur,_,_,_,h1,h2,_,_⟩
  · omega
  · unfold maxLen at h2;omega
theorem Row.form {B:Nat}{w:World}{v:Value}{l:List ByteArray}(h:Row B w v l):(v=.slice none 0 0∧l=[])∨∃g cap,v=.slice (some ⟨g,0,none⟩) l.length cap∧B≤g∧g<w.heap.size:=by
  rcases h.2 with ⟨h1,h0⟩|⟨g,cap,cur,h1,h2,h3,_⟩
  · exact .inl ⟨h1,List.length_eq_zero_iff.1 h0⟩
  · exact .inr ⟨g,cap,h1,h2,(Array.getElem?_eq_some_iff.1 h3).1⟩
theorem Row.has {B:Nat}{w:World}{v:Value}{l:List ByteArray}(h:Row B w v l):Has w v l:=by
  rcases h.form with ⟨rfl,rfl⟩|⟨g,cap,rfl,_,hg⟩
  · exact⟨none,0,rfl,by simp,fun i hi=>absurd hi (by simp)⟩
  · exact⟨_,cap,rfl,h.len,fun i hi=>⟨_,rfl,hg,by rw [add_zero];exact h.cell hi⟩⟩
theorem has_nil (w:World):Has w (.slice none 0 0) []:=⟨none,0,rfl,by simp,fun i hi=>absurd hi (by simp)⟩
theorem lt_of_cell {w:World}{p:Addr}{v:Value}(h:w.cell? p=some v):p.block<w.heap.size:=by
  rcases Nat.lt_or_ge p.block w.heap.size with hlt|hge
  · exact hlt
  · unfold World.cell? at h;rw [Array.getElem?_eq_none hge]at h;cases h
theorem Row.alloc {B:Nat}{w:World}{v:Value}{l:List ByteArray}(h:Row B w v l)(o:Obj):Row B (w.alloc o) v l:=World.ownsRow.alloc h o
theorem Row.below {B:Nat}{w w':World}{v:Value}{l:List ByteArray}(h:Row B w v l)(hb:Below w.heap.size w w'):Row B w' v l:=
  h.kept (row:=none) ⟨hb.os,hb.tape,hb.output,hb.size,fun k hk _=>hb.block k hk⟩ (by
    rcases h.form with ⟨rfl,_⟩|⟨g,cap,rfl,_,_⟩<;>simp [Value.ownBlock])
theorem Row.mono {B B':Nat}{w:World}{v:Value}{l:List ByteArray}(h:Row B w v l)(hb:B'≤B):Row B' w v l:=World.ownsRow.mono h hb
theorem Row.lt {B:Nat}{w:World}{v:Value}{l:List ByteArray}(h:Row B w v l){k:Nat}(hk:v.ownBlock=some k):B≤k∧k<w.heap.size:=World.ownsRow.lt h k hk
theorem below_drewN {B:Nat}{a w:World}(h:Below B a w)(q:Nat):Below B a (w.drewN q):=⟨h.os,h.tape,h.output,h.size,h.block⟩
theorem grown_below {w w':World}{row:Option Nat}(h:Below w.heap.size w w'):w.grownBy w' row:=⟨h.os,h.tape,h.output,h.size,fun k hk _=>h.block k hk⟩
theorem Row.cap' {B:Nat}{w:World}{l:List ByteArray}{g cap n:Nat}(h:Row B w (.slice (some ⟨g,0,none⟩) n cap) l):n=l.length:=by
  rcases h.2 with ⟨h',_⟩|⟨g',cap',cur,h',_⟩
  · cases h'
  · cases h';rfl
theorem wpList_row_append {ops:Array Oper}{rest:List Oper}{o:Oper}{a:Act}{Q:Exit→Act→World→Prop}{w:World}(hgd:o.guard=none)(s x:Operand)
    (ho:o.op=.call { callee:=.builtin .append,args:=#[s,x],argTypes:=#[25,25] })
    (B g n c:Nat) (L:List ByteArray) (hs:a.eval s=.slice (some ⟨g,0,none⟩) n c) (hrow:Row B w (.slice (some ⟨g,0,none⟩) n c) L)
    (y:ByteArray) (hx:a.eval x=.slice (some ⟨w.heap.size,0,none⟩) 1 1) (hlen:n+1≤4194304) (hbase:B≤w.heap.size) (q:Nat) (hq:q=n+1)
    (h:∀g' c'' w',Row B w' (.slice (some ⟨g',0,none⟩) q c'') (L++ [y])→(w.alloc (.cells #[.string y] 9)).grownBy w' (some g)→wpList Tryz.prog ops Q rest (a.put o.dst (.slice (some ⟨g',0,none⟩) q c'')) w'):
    wpList Tryz.prog ops Q (o::rest) a (w.alloc (.cells #[.string y] 9)):=by
  obtain⟨i0,hi,hz0,hz1,hz2⟩:=info_parts infoStr
  have hnL:=hrow.cap'
  subst hq
  subst hnL
  refine wpList_append_own _ hgd s x 25 ho B 9 i0 (.string ⟨#[]⟩) 1 16 Tryz.underlying25 hi hz0 hz1 hz2 rfl (by decide) _ L.length (L.map Value.string) hs (hrow.alloc _) ⟨w.heap.size,0,none⟩ 1 1 [.string y] hx rfl (World.news_of_block (heap_alloc_new w _)) (by simp [Value.oneCell']) (by unfold maxLen;omega) (by omega) (Nat.le_trans hbase ((Below.refl 0 w).alloc (Nat.zero_le _) _).size) ?_
  intro v' w' h2 h3 h4
  rcases h2.2 with ⟨h5,_⟩|⟨g',cap',cur,h5,_⟩
  · exact absurd (h4.1 h5).1 (by simp)
  · subst h5
    refine h g' cap' w' ?_ h3
    unfold Row
    rw [List.length_append,List.map_append]
    exact h2
theorem row_empty {B b:Nat}{W:World}(hb:W.heap[b]? =some (.cells #[] 9))(hB:B≤b):Row B W (.slice (some ⟨b,0,none⟩) 0 0) []:=⟨rfl,.inr ⟨b,0,#[],rfl,hB,hb,by simp,by simp,rfl,rfl⟩⟩
theorem Row.cap {B:Nat}{w:World}{l:List ByteArray}{g cap n:Nat}(h:Row B w (.slice (some ⟨g,0,none⟩) n cap) l):n=l.length∧n≤cap:=by
  rcases h.2 with ⟨h',_⟩|⟨g',cap',cur,h',_,_,h1,_,_,_⟩
  · cases h'
  · cases h';exact⟨rfl,h1⟩
end
end Go.Proofs.YtecladbckadijaaGreatDoor
namespace Go.Proofs.YtecladbckadijaaGreatDoor.NumP

def dec (m:Nat):List UInt8:=if m<10 then [UInt8.ofNat (48+m)]else dec (m / 10)++ [UInt8.ofNat (48+m % 10)]
termination_by m
decreasing_by omega

def ndig (m:Nat):Nat:=if m<10 then 1 else ndig (m / 10)+1
termination_by m
decreasing_by omega

theorem dec_small {m:Nat}(h:m<10):dec m=[UInt8.ofNat (48+m)]:=by rw [dec,if_pos h]
theorem dec_big {m:Nat}(h:10≤m):dec m=dec (m / 10)++ [UInt8.ofNat (48+m % 10)]:=by rw [dec,if_neg (by omega)]
theorem ndig_small {m:Nat}(h:m<10):ndig m=1:=by rw [ndig,if_pos h]
theorem ndig_big {m:Nat}(h:10≤m):ndig m=ndig (m / 10)+1:=by rw [ndig,if_neg (by omega)]
theorem ndig_pos (m:Nat):1≤ndig m:=by rw [ndig];split<;>omega
theorem ndig_le (k:Nat):∀m:Nat,m<10 ^ (k+1)→ndig m≤k+1:=by
  induction k with
  | zero=>intro m h;rw [ndig_small (by simpa using h)];omega
  | succ k ih =>
    intro m h
    by_cases hm:m<10
    · rw [ndig_small hm];omega
    · rw [ndig_big (by omega)]
      have:=ih (m / 10) (by rw [Nat.pow_succ]at h;omega)
      omega
theorem ndig_le20 {m:Nat}(h:m<18446744073709551616):ndig m≤20:=
  ndig_le 19 m (by have : (10 : Nat) ^ (19 + 1) = 100000000000000000000 := by decide
                   omega)
theorem dec_length (m:Nat):(dec m).length=ndig m:=by
  induction m using Nat.strongRecOn with
  | _ m ih =>
    by_cases h:m<10
    · rw [dec_small h,ndig_small h];rfl
    · rw [dec_big (by omega),ndig_big (by omega),List.length_append,ih (m / 10) (by omega)];rfl
def pad:Nat→Nat→List UInt8
  | 0,_=>[]
  | k+1,m=>pad k (m / 10)++ [UInt8.ofNat (48+m % 10)]
theorem pad_ndig (m:Nat):pad (ndig m) m=dec m:=by
  induction m using Nat.strongRecOn with
  | _ m ih =>
    by_cases h:m<10
    · rw [ndig_small h,dec_small h];simp [pad,Nat.mod_eq_of_lt h]
    · rw [ndig_big (by omega),dec_big (by omega),pad,ih (m / 10) (by omega)]
def fmtL (n:Int):List UInt8:=if n<0 then 45::dec n.natAbs else dec n.natAbs
def fmtS (n:Int):ByteArray:=⟨(fmtL n).toArray⟩
theorem fmtS_neg {n:Int}(h:n<0):fmtS n=⟨(45::dec n.natAbs).toArray⟩:=by unfold fmtS fmtL;rw [if_pos h]
theorem fmtS_pos {n:Int}(h:0≤n):fmtS n=⟨(dec n.natAbs).toArray⟩:=by unfold fmtS fmtL;rw [if_neg (by omega)]
theorem fmtL_length {n:Int}(h:-9223372036854775808≤n)(h':n≤9223372036854775807):1≤(fmtL n).length∧(fmtL n).length≤21:=by
  have h1:=ndig_le20 (m:=n.natAbs) (by omega)
  have h2:=ndig_pos n.natAbs
  unfold fmtL;split<;>simp only [List.length_cons,dec_length]<;>omega
def rdGo:Nat→List UInt8→Option Nat
  | n,[]=>some n
  | n,c::r=>if 48≤c.toNat∧c.toNat≤57 then(if n*10+(c.toNat-48)≤1000000000 then rdGo (n*10+(c.toNat-48)) r else none)else none
def rdL (l:List UInt8):Option Nat:=if l=[]then none else rdGo 0 l
theorem rdGo_le:∀(l:List UInt8) (n m:Nat),n≤1000000000→rdGo n l=some m→m≤1000000000:=by
  intro l
  induction l with
  | nil=>intro n m h e;simp [rdGo]at e;omega
  | cons c r ih =>
    intro n m h e
    rw [rdGo]at e
    split at e
    · split at e
      · exact ih _ _ ‹_› e
      · cases e
    · cases e
theorem rdL_le {l:List UInt8}{m:Nat}(e:rdL l=some m):m≤1000000000:=by
  unfold rdL at e;split at e
  · cases e
  · exact rdGo_le l 0 m (by omega) e
def unsign:List UInt8→List UInt8
  | []=>[]
  | c::r=>if c=45∨c=43 then r else c::r
def minus:List UInt8→Bool
  | []=>false
  | c::_=>c==45
def readL (l:List UInt8):Option Int:=(rdL (unsign l)).map fun m=>if minus l then -(m:Int)else m
def parseL (l:List UInt8):Option Int:=(readL l).bind fun n=>if fmtL n=l then some n else none
theorem readL_bd {l:List UInt8}{n:Int}(e:readL l=some n):-1000000000≤n∧n≤1000000000:=by
  unfold readL at e
  cases h:rdL (unsign l)with
  | none=>rw [h]at e;cases e
  | some m =>
    have:=rdL_le h
    rw [h]at e;simp at e;subst e;split<;>omega
theorem dec_digit (m:Nat):∀c∈dec m,48≤c.toNat∧c.toNat≤57:=by
  induction m using Nat.strongRecOn with
  | _ m ih =>
    intro c hc
    by_cases h:m<10
    · rw [dec_small h,List.mem_singleton]at hc;subst hc;simp only [UInt8.toNat_ofNat'];omega
    · rw [dec_big (by omega)]at hc
      rcases List.mem_append.1 hc with hc|hc
      · exact ih (m / 10) (by omega) c hc
      · rw [List.mem_singleton]at hc;subst hc;simp only [UInt8.toNat_ofNat'];omega
theorem dec_ne_nil (m:Nat):dec m≠[]:=by
  intro h;have:=dec_length m;rw [h]at this;have:=ndig_pos m;simp at*;omega
theorem rdGo_append:∀(a b:List UInt8) (n:Nat),rdGo n (a++b)=(rdGo n a).bind fun m=>rdGo m b:=by
  intro a
  induction a with
  | nil=>intro b n;simp [rdGo]
  | cons c r ih =>
    intro b n
    simp only [List.cons_append,rdGo]
    split
    · split
      · exact ih b _
      · rfl
    · rfl
theorem rdGo_dec (m:Nat)(h:m≤1000000000):rdGo 0 (dec m)=some m:=by
  induction m using Nat.strongRecOn with
  | _ m ih =>
    by_cases hm:m<10
    · rw [dec_small hm];simp only [rdGo,UInt8.toNat_ofNat']
      rw [if_pos (by omega),if_pos (by omega)];congr 1;omega
    · rw [dec_big (by omega),rdGo_append,ih (m / 10) (by omega) (by omega)]
      simp only [Option.bind_some,rdGo,UInt8.toNat_ofNat']
      rw [if_pos (by omega),if_pos (by omega)];congr 1;omega
theorem rdL_dec {m:Nat}(h:m≤1000000000):rdL (dec m)=some m:=by unfold rdL;rw [if_neg (dec_ne_nil m),rdGo_dec m h]
theorem unsign_dec (m:Nat):unsign (dec m)=dec m∧minus (dec m)=false:=by
  have hd:=dec_digit m
  cases h:dec m with
  | nil=>exact⟨rfl,rfl⟩
  | cons c r =>
    have:=hd c (by rw [h];simp)
    have c1:c≠45:=by rintro rfl;simp at this
    have c2:c≠43:=by rintro rfl;simp at this
    simp [unsign,minus,c1,c2]
theorem readL_fmt {n:Int}(h:-1000000000≤n)(h':n≤1000000000):readL (fmtL n)=some n:=by
  unfold readL fmtL
  split
  · simp only [unsign,minus];rw [if_pos (by simp),rdL_dec (by omega)];simp;omega
  · rw [(unsign_dec _).1,(unsign_dec _).2,rdL_dec (by omega)];simp;omega
theorem parseL_fmt {n:Int}(h:-1000000000≤n)(h':n≤1000000000):parseL (fmtL n)=some n:=by
  unfold parseL;rw [readL_fmt h h'];simp
end Go.Proofs.YtecladbckadijaaGreatDoor.NumP
namespace Go.Proofs.YtecladbckadijaaGreatDoor
open Go.Lib (hid)
section
open Go.RowKit Go.ChangeShapes Go.WideShapes Go.Deep Go.Joins

structure Ty where
 k:Int
 rg:List Rg
 nm:List ByteArray
 pt:ByteArray
 ph:ByteArray
structure TyV where
 k:Int
 vr:Value
 vn:Value
 pt:ByteArray
 ph:ByteArray
abbrev TyV.val (v:TyV):Value:=.agg #[.int .i64 v.k,v.vr,v.vn,.string v.pt,.string v.ph]
structure HasTy (w:World) (v:TyV) (t:Ty):Prop where
 k:v.k=t.k
 rg:HasG w v.vr t.rg
 nm:Has w v.vn t.nm
 pt:v.pt=t.pt
 ph:v.ph=t.ph
structure OwnTy (B:Nat) (w:World) (v:TyV) (t:Ty):Prop where
 k:v.k=t.k
 rg:RowG B w v.vr t.rg
 nm:Row B w v.vn t.nm
 pt:v.pt=t.pt
 ph:v.ph=t.ph
 ne:∀j,v.vr.ownBlock=some j→v.vn.ownBlock≠some j
theorem HasTy.below {w w':World}{v:TyV}{t:Ty}(h:HasTy w v t)(hb:Below w.heap.size w w'):HasTy w' v t:=⟨h.k,h.rg.below hb,h.nm.below hb,h.pt,h.ph⟩
theorem OwnTy.below {B:Nat}{w w':World}{v:TyV}{t:Ty}(h:OwnTy B w v t)(hb:Below w.heap.size w w'):OwnTy B w' v t:=⟨h.k,RowR.below h.rg hb,h.nm.below hb,h.pt,h.ph,h.ne⟩
theorem OwnTy.has {B:Nat}{w:World}{v:TyV}{t:Ty}(h:OwnTy B w v t):HasTy w v t:=⟨h.k,RowR.hasG h.rg,h.nm.has,h.pt,h.ph⟩
theorem OwnTy.mono {B B':Nat}{w:World}{v:TyV}{t:Ty}(h:OwnTy B w v t)(hb:B'≤B):OwnTy B' w v t:=⟨h.k,RowR.mono h.rg hb,h.nm.mono hb,h.pt,h.ph,h.ne⟩
theorem OwnTy.setLow {B b j:Nat}{w:World}{v:TyV}{t:Ty}{u:Value}(h:OwnTy B w v t)(hb:b<B):OwnTy B (w.setCell ⟨b,j,none⟩ u) v t:=
 ⟨h.k,ownsRow_setCell_other h.rg (a:=⟨b,j,none⟩) (fun e=>by have:=(RowR.lt h.rg e).1;simp at this;omega) _,ownsRow_setCell_other h.nm (a:=⟨b,j,none⟩) (fun e=>by have:=(h.nm.lt e).1;simp at this;omega) _,h.pt,h.ph,h.ne⟩
theorem five {w:World}{b:Nat}{a0 a1 a2 a3 a4:Value}{t:TypeId}(h:w.heap[b]? =some (.cells #[a0,a1,a2,a3,a4] t (0,0))):
  (w.cell? ⟨b,0,none⟩=some a0∧w.cell? ⟨b,1,none⟩=some a1∧w.cell? ⟨b,2,none⟩=some a2∧w.cell? ⟨b,3,none⟩=some a3∧w.cell? ⟨b,4,none⟩=some a4)∧
  (w.frozen? ⟨b,0,none⟩=false∧w.frozen? ⟨b,1,none⟩=false∧w.frozen? ⟨b,2,none⟩=false∧w.frozen? ⟨b,3,none⟩=false∧w.frozen? ⟨b,4,none⟩=false):=by
 refine⟨⟨?_,?_,?_,?_,?_⟩,frozen_of_row _ b 0 _ _ h,frozen_of_row _ b 1 _ _ h,frozen_of_row _ b 2 _ _ h,frozen_of_row _ b 3 _ _ h,frozen_of_row _ b 4 _ _ h⟩
 ·rw [cell_of_row _ b 0 _ _ _ h];rfl
 ·rw [cell_of_row _ b 1 _ _ _ h];rfl
 ·rw [cell_of_row _ b 2 _ _ _ h];rfl
 ·rw [cell_of_row _ b 3 _ _ _ h];rfl
 ·rw [cell_of_row _ b 4 _ _ _ h];rfl
theorem set5 {w:World}{b:Nat}{a0 a1 a2 a3 a4:Value}{t:TypeId}(h:w.heap[b]? =some (.cells #[a0,a1,a2,a3,a4] t (0,0)))(j:Nat)(u:Value):(w.setCell ⟨b,j,none⟩ u).heap[b]? =some (.cells (#[a0,a1,a2,a3,a4].setIfInBounds j u) t (0,0)):=heap_setCell_same w b j _ t u h
theorem heap_alloc_new' (w:World)(o:Obj){b:Nat}(h:b=w.heap.size):(w.alloc o).heap[b]? =some o:=by rw [h];exact heap_alloc_new w o
theorem below_set' {W W':World}{b j:Nat}{u:Value}(h:Below W.heap.size W W')(hb:W.heap.size≤b):Below W.heap.size W (W'.setCell ⟨b,j,none⟩ u):=h.setCell (p:=⟨b,j,none⟩) hb u
end
section
open Go.RowKit

theorem sIn_any (x a b:Int)(w:World):
  Calls Tryz.prog 56 #[.int .i64 x,.int .i64 a,.int .i64 b] w fun e w'=>e=.returned (.bool (decide (a≤x∧x≤b)))∧w=w':=by
 by_cases h:a≤x<;>by_cases h':x≤b
 all_goals
  go_enter Tryz.func56,Tryz.ntmps56
  go_wp2
  go_ret
  exact⟨ret_bool (by simp [h,h']),rfl⟩
theorem sIn_yes (x a b:Int)(w:World)(h:a≤x)(h':x≤b):
  Calls Tryz.prog 56 #[.int .i64 x,.int .i64 a,.int .i64 b] w fun e w'=>e=.returned (.bool true)∧w=w':=
 (sIn_any x a b w).mono fun _ _ ⟨he,hw⟩=>⟨by rw [he,decide_eq_true ⟨h,h'⟩],hw⟩
theorem sIn_no (x a b:Int)(w:World)(h:x<a∨b<x):
  Calls Tryz.prog 56 #[.int .i64 x,.int .i64 a,.int .i64 b] w fun e w'=>e=.returned (.bool false)∧w=w':=
 (sIn_any x a b w).mono fun _ _ ⟨he,hw⟩=>⟨by rw [he,decide_eq_false (by omega)],hw⟩
end
end Go.Proofs.YtecladbckadijaaGreatDoor
