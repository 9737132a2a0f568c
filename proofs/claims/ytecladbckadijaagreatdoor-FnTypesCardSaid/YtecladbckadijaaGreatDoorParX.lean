/- MERGED for a claim. -/
import Derived.Test.YtecladbckadijaaGreatDoorParI
import Derived.Lib.TrimByte
import Derived.WalkMore
import Derived.Lib.IndexBytes
set_option linter.unusedVariables false
set_option linter.unusedSimpArgs false
set_option maxRecDepth 100000
set_option maxHeartbeats 16000000
namespace Go.Proofs.YtecladbckadijaaGreatDoor
open Go.Lib (hid)
section
open Go.RowKit

def rdq:List UInt8→Option (List UInt8×List UInt8)
 | []=>none
 | c :: r => if c = 34 then some ([], r) else if c = 92 then
   match r with
   | []=>none
   | d::r'=>if escB d then(rdq r').map fun p=>(d::p.1,p.2)else none
  else(rdq r).map fun p=>(c::p.1,p.2)
theorem rdq_nil:rdq []=none:=by rw [rdq]
theorem rdq_end {c:UInt8}{r:List UInt8}(h:c=34):rdq (c::r)=some ([],r):=by rw [rdq.eq_def];simp [h]
theorem rdq_cut {c:UInt8}(h:c=92):rdq [c]=none:=by rw [rdq.eq_def];simp [h]
theorem rdq_esc {c d:UInt8}{r:List UInt8}(h:c=92)(hd:escB d=true):rdq (c::d::r)=(rdq r).map fun p=>(d::p.1,p.2):=by
 rw [rdq.eq_def];simp [h,hd]
theorem rdq_bad {c d:UInt8}{r:List UInt8}(h:c=92)(hd:escB d=false):rdq (c::d::r)=none:=by
 rw [rdq.eq_def];simp [h,hd]
theorem rdq_on {c:UInt8}{r:List UInt8}(h:c≠34)(h':c≠92):rdq (c::r)=(rdq r).map fun p=>(c::p.1,p.2):=by
 rw [rdq.eq_def];simp [h,h']
def Rd (s:ByteArray)(a k:Nat)(l:List UInt8):Prop:=rdq (s.data.toList.drop a)=(rdq (s.data.toList.drop k)).map fun p=>(l++p.1,p.2)
theorem Rd.start (s:ByteArray)(a:Nat):Rd s a a []:=by
 unfold Rd
 cases rdq (s.data.toList.drop a)with
 | none=>rfl
 | some p=>rfl
theorem Rd.on {s:ByteArray}{a k:Nat}{l:List UInt8}(h:Rd s a k l)(hk:k<s.size)(h1:s[k]≠34)(h2:s[k]≠92):Rd s a (k+1) (l++ [s[k]]):=by
 unfold Rd at h ⊢
 rw [h,data_drop s k hk,rdq_on h1 h2]
 cases rdq (s.data.toList.drop (k+1))with
 | none=>rfl
 | some p=>simp
theorem Rd.esc {s:ByteArray}{a k:Nat}{l:List UInt8}(h:Rd s a k l)(hk:k+1<s.size)(h1:s[k]=92)(h2:escB s[k+1]=true):Rd s a (k+2) (l++ [s[k+1]]):=by
 unfold Rd at h ⊢
 rw [h,data_drop s k (by omega),data_drop s (k+1) hk,rdq_esc h1 h2]
 cases rdq (s.data.toList.drop (k+1+1))with
 | none=>rfl
 | some p=>simp
theorem Rd.done {s:ByteArray}{a k:Nat}{l:List UInt8}(h:Rd s a k l)(hk:k<s.size)(h1:s[k]=34):rdq (s.data.toList.drop a)=some (l,s.data.toList.drop (k+1)):=by
 unfold Rd at h
 rw [h,data_drop s k hk,rdq_end h1];simp
theorem Rd.cut {s:ByteArray}{a k:Nat}{l:List UInt8}(h:Rd s a k l)(hk:s.size≤k):rdq (s.data.toList.drop a)=none:=by
 unfold Rd at h
 rw [h,List.drop_eq_nil_of_le (by simp;omega),rdq_nil];rfl
theorem Rd.cut2 {s:ByteArray}{a k:Nat}{l:List UInt8}(h:Rd s a k l)(hk:k+1=s.size)(h1:s[k]=92):rdq (s.data.toList.drop a)=none:=by
 unfold Rd at h
 rw [h,data_drop s k (by omega),List.drop_eq_nil_of_le (by simp;omega),rdq_cut h1];rfl
theorem Rd.bad {s:ByteArray}{a k:Nat}{l:List UInt8}(h:Rd s a k l)(hk:k+1<s.size)(h1:s[k]=92)(h2:escB s[k+1]=false):rdq (s.data.toList.drop a)=none:=by
 unfold Rd at h
 rw [h,data_drop s k (by omega),data_drop s (k+1) hk,rdq_bad h1 h2];rfl
def quotedAt (s:ByteArray)(a:Nat):Option (List UInt8×Nat):=
 if s.data.toList[a]? =some 34 then(rdq (s.data.toList.drop (a+1))).map fun p=>(p.1,s.size-p.2.length)else none
theorem quotedAt_not {s:ByteArray}{a:Nat}(h:a<s.size)(h':s[a]≠34):quotedAt s a=none:=by
 unfold quotedAt;rw [if_neg]
 rw [List.getElem?_eq_getElem (by simpa using h)]
 intro e;exact h' (Option.some.inj e)
theorem quotedAt_is {s:ByteArray}{a:Nat}(h:a<s.size)(h':s[a]=34):quotedAt s a=(rdq (s.data.toList.drop (a+1))).map fun p=>(p.1,s.size-p.2.length):=by
 unfold quotedAt;rw [if_pos]
 rw [List.getElem?_eq_getElem (by simpa using h)]
 exact congrArg some h'
theorem quotedAt_empty:quotedAt ⟨#[]⟩ 0=none:=by rfl
theorem quotedAt_some {s:ByteArray}{a k:Nat}{l:List UInt8}(h:a<s.size)(h':s[a]=34)(hr:rdq (s.data.toList.drop (a+1))=some (l,s.data.toList.drop k))(hk:k≤s.size):quotedAt s a=some (l,k):=by
 rw [quotedAt_is h h',hr];simp;omega
theorem quotedAt_none {s:ByteArray}{a:Nat}(h:a<s.size)(h':s[a]=34)(hr:rdq (s.data.toList.drop (a+1))=none):quotedAt s a=none:=by
 rw [quotedAt_is h h',hr];rfl
def readV:Option (List UInt8×Nat)→Value
 | none=>.tuple #[.string ⟨#[]⟩,.int .i64 0]
 | some p=>.tuple #[.string ⟨p.1.toArray⟩,.int .i64 p.2]
theorem rdq_short:∀(n:Nat) (l t r:List UInt8),l.length≤n→rdq l=some (t,r)→r.length<l.length:=by
 intro n
 induction n with
 | zero =>
  intro l t r hn h
  rw [List.length_eq_zero_iff.1 (Nat.le_zero.1 hn),rdq_nil]at h;cases h
 | succ n ih =>
  intro l t r hn h
  match l,hn,h with
  | [],_,h=>rw [rdq_nil]at h;cases h
  | c :: r0, hn, h =>
   simp only [List.length_cons]at hn
   by_cases h1:c=34
   ·rw [rdq_end h1]at h;cases h;simp
   ·by_cases h2:c=92
    ·match r0,hn,h with
     | [],_,h=>rw [rdq_cut h2]at h;cases h
     | d :: r1, hn, h =>
      simp only [List.length_cons]at hn
      cases hd:escB d
      ·rw [rdq_bad h2 hd]at h;cases h
      ·rw [rdq_esc h2 hd]at h
       cases hr:rdq r1 with
       | none=>rw [hr]at h;cases h
       | some p =>
        rw [hr]at h;cases h
        have:=ih r1 p.1 p.2 (by omega) hr
        simp only [List.length_cons];omega
    ·rw [rdq_on h1 h2]at h
     cases hr:rdq r0 with
     | none=>rw [hr]at h;cases h
     | some p =>
      rw [hr]at h;cases h
      have:=ih r0 p.1 p.2 (by omega) hr
      simp only [List.length_cons];omega
theorem iReadQ_any (s:ByteArray)(hs:s.size≤1048576)(w:World):
  Calls Tryz.prog 101 #[.string s] w fun e w'=>e=.returned (readV (quotedAt s 0))∧Below w.heap.size w w':=by
 by_cases h0:s.size=0
 ·obtain rfl:=str_empty h0
  go_enter Tryz.func101,Tryz.ntmps101
  go_wp2
  go_ret2
  exact⟨ret_val (by rw [quotedAt_empty];rfl),Below.refl _ _⟩
 ·have hp:0<s.size:=by omega
  have hne:s.toList.isEmpty=false:=not_empty hp
  by_cases hq:s[0]=34
  ·have H1:((s[0].toNat:Int) != 34)=false:=byte_bne hq
   have HQ:=hid hq
   clear hq
   go_enter Tryz.func101,Tryz.ntmps101
   go_wp2
   go_loopw [4,5] (fun v i wr=>∃(k:Nat) (l:List UInt8),k≤s.size∧l.length+1≤k∧i=.int .i64 k∧Buf w.heap.size v l w wr∧Hid (Rd s 1 k l)) (fun _ i _=>s.size-(intOf i).toNat)
   case atStart=>exact⟨1,[],by omega,by simp,rfl,buf_none (Below.refl _ _),hid (Rd.start s 1)⟩
   case round=>
    obtain⟨k,l,hk,hl,rfl,hb,HR⟩:=hrel
    by_cases hlt:k<s.size
    ·by_cases h1:s[k]=34
     ·have H2:((s[k].toNat:Int)==34)=true:=byte_is h1
      have HE:=hid (quotedAt_some hp HQ.out (HR.out.done hlt h1) (by omega))
      clear h1
      have hcv:=buf_str hb
      go_wp2
      go_ret2
      exact⟨ret_val (by rw [HE.out];rfl),hb.below⟩
     ·have H2:((s[k].toNat:Int)==34)=false:=byte_ne (d:=34) h1
      by_cases h2:s[k]=92
      ·have H3:((s[k].toNat:Int)==92)=true:=byte_is h2
       have HX:=hid h2
       clear h1 h2
       by_cases hlt2:k+1<s.size
       ·cases hc:escB s[k+1]
        ·have HC:=hid hc
         have HE:=hid (quotedAt_none hp HQ.out (HR.out.bad hlt2 HX.out hc))
         clear hc
         go_wp2_with (go_at_call 69;refine(iEsc_any _ _).mono ?_;rw [HC.out];rintro e w' ⟨rfl,rfl⟩)
         go_ret2
         exact⟨ret_val (by rw [HE.out];rfl),hb.below⟩
        ·have HC:=hid hc
         clear hc
         go_wp2_with (first
          |(go_at_call 69;refine(iEsc_any _ _).mono ?_;rw [HC.out];rintro e w' ⟨rfl,rfl⟩)
          |(at_builtin;refine buf_append rfl _ _ rfl _ _ _ rfl _ _ _ hb rfl s[k+1] rfl (by omega) ?_;clear hb;intro v1 w1 hb))
         go_roundw
         case rel=>exact⟨k+2,_,by omega,by simp;omega,by go_num,hb,hid (HR.out.esc hlt2 HX.out HC.out)⟩
         case measure=>simp [intOf];omega
       ·have HE:=hid (quotedAt_none hp HQ.out (HR.out.cut2 (by omega) HX.out))
        have hk2:((k:Int)+1==(s.size:Int))=true:=by simp only [beq_iff_eq];omega
        go_wp2
        go_ret2
        exact⟨ret_val (by rw [HE.out];rfl),hb.below⟩
      ·have H3:((s[k].toNat:Int)==92)=false:=byte_ne (d:=92) h2
       have HX:=hid h1
       have HY:=hid h2
       clear h1 h2
       go_wp2_with (at_builtin;refine buf_append rfl _ _ rfl _ _ _ rfl _ _ _ hb rfl s[k] rfl (by omega) ?_;clear hb;intro v1 w1 hb)
       go_roundw
       case rel=>exact⟨k+1,_,by omega,by simp;omega,by go_num,hb,hid (HR.out.on hlt HX.out HY.out)⟩
       case measure=>simp [intOf];omega
    ·have HE:=hid (quotedAt_none hp HQ.out (HR.out.cut (by omega)))
     go_wp2
     go_ret2
     exact⟨ret_val (by rw [HE.out];rfl),hb.below⟩
  ·have H1:((s[0].toNat:Int) != 34)=true:=byte_nbne (d:=34) hq
   have HE:=hid (quotedAt_not hp hq)
   clear hq
   go_enter Tryz.func101,Tryz.ntmps101
   go_wp2
   go_ret2
   exact⟨ret_val (by rw [HE.out];rfl),Below.refl _ _⟩
end
section
open Go.RowKit

def skip:Bool→List UInt8→List UInt8
 | _,[]=>[]
 | true,c::r=>if c=10 then skip false r else skip true r
 | false,c::r=>if c=32∨c=10 then skip false r else if c=35 then skip true r else c::r
theorem skip_nil (b:Bool):skip b []=[]:=by cases b<;>rfl
theorem skip_blank {c:UInt8}{r:List UInt8}(h:c=32∨c=10):skip false (c::r)=skip false r:=by rw [skip,if_pos h]
theorem skip_hash {c:UInt8}{r:List UInt8}(h:c=35):skip false (c::r)=skip true (c::r):=by subst h;rfl
theorem skip_stop {c:UInt8}{r:List UInt8}(h1:c≠32)(h2:c≠10)(h3:c≠35):skip false (c::r)=c::r:=by
 rw [skip,if_neg (by rintro(h|h)<;>contradiction),if_neg h3]
theorem skip_line {c:UInt8}{r:List UInt8}(h:c=10):skip true (c::r)=skip false (c::r):=by rw [skip,if_pos h,skip_blank (.inr h)]
theorem skip_in {c:UInt8}{r:List UInt8}(h:c≠10):skip true (c::r)=skip true r:=by rw [skip,if_neg h]
theorem skip_suffix:∀(l:List UInt8) (b:Bool),∃m,m≤l.length∧skip b l=l.drop m:=by
 intro l
 induction l with
 | nil=>intro b;exact⟨0,Nat.le_refl _,by rw [skip_nil];rfl⟩
 | cons c r ih =>
  have step:∀b b',skip b (c::r)=skip b' r→∃m,m≤(c::r).length∧skip b (c::r)=(c::r).drop m:=fun b b' h=>by
   obtain⟨m,hm,e⟩:=ih b'
   exact⟨m+1,by simp;omega,by rw [h,e];rfl⟩
  intro b
  cases b with
  | true =>
   by_cases h:c=10
   ·exact step _ false (by rw [skip,if_pos h])
   ·exact step _ true (skip_in h)
  | false =>
   by_cases h:c=32∨c=10
   ·exact step _ false (skip_blank h)
   ·by_cases h':c=35
    ·exact step _ true (by rw [skip_hash h',skip_in (by rw [h'];decide)])
    ·exact⟨0,Nat.zero_le _,by rw [skip,if_neg h,if_neg h'];rfl⟩
theorem skip_head {l:List UInt8}{b:Bool}{c:UInt8}{r:List UInt8}(h:skip b l=c::r):c≠32∧c≠10∧c≠35:=by
 induction l generalizing b with
 | nil=>rw [skip_nil]at h;cases h
 | cons d t ih =>
  cases b with
  | true =>
   rw [skip]at h;split at h
   ·exact ih h
   ·exact ih h
  | false =>
   rw [skip]at h;split at h
   ·exact ih h
   ·split at h
    ·exact ih h
    ·rename_i h1 h2
     cases h
     exact⟨fun e=>h1 (.inl e),fun e=>h1 (.inr e),h2⟩
def skE (s:ByteArray)(k:Nat):Nat:=s.size-(skip false (s.data.toList.drop k)).length
theorem skE_le (s:ByteArray)(k:Nat):skE s k≤s.size:=Nat.sub_le _ _
theorem dlen (s:ByteArray)(k:Nat):(s.data.toList.drop k).length=s.size-k:=by simp
theorem skE_drop {s:ByteArray}{k:Nat}(_hk:k≤s.size):s.data.toList.drop (skE s k)=skip false (s.data.toList.drop k):=by
 obtain⟨m,hm,e⟩:=skip_suffix (s.data.toList.drop k) false
 unfold skE
 rw [e,List.drop_drop,dlen]
 rw [dlen]at hm
 congr 1;omega
def marks1:List UInt8:=[123,125,59,91,93,40,41,60,62,61,43,45,47,124,46,44,36,58]
def mk2:List UInt8→Bool
 | c::d::_=>(c==33&&d==61) || (c==60&&d==61) || (c==62&&d==61) || (c==46&&d==46)
 | _=>false
def mkLen (l:List UInt8):Nat:=if mk2 l=true then 2 else match l with
 | c::_=>if marks1.contains c=true then 1 else 0
 | []=>0
def nmLen (l:List UInt8):Nat:=(Lib.trimRightB (l.takeWhile nbB) 45).length
def dgLen (l:List UInt8):Nat:=(l.takeWhile digB).length
def tokL:List UInt8→Option (Int×List UInt8×Nat)
 | []=>none
 | c :: r =>
  if letB c=true then some (1,(c::r).take (nmLen (c::r)),nmLen (c::r))
  else if digB c=true then some (2,(c::r).take (dgLen (c::r)),dgLen (c::r))
  else if c=34 then(rdq r).map fun p=>(3,p.1,r.length+1-p.2.length)
  else if mkLen (c::r)=0 then none
  else some (4,(c::r).take (mkLen (c::r)),mkLen (c::r))
theorem tokL_let {c:UInt8}{r:List UInt8}(h:letB c=true):tokL (c::r)=some (1,(c::r).take (nmLen (c::r)),nmLen (c::r)):=by rw [tokL,if_pos h]
theorem tokL_dig {c:UInt8}{r:List UInt8}(h:letB c=false)(h':digB c=true):tokL (c::r)=some (2,(c::r).take (dgLen (c::r)),dgLen (c::r)):=by
 rw [tokL,if_neg (by rw [h];decide),if_pos h']
theorem tokL_quo {c:UInt8}{r:List UInt8}(h:c=34):tokL (c::r)=(rdq r).map fun p=>(3,p.1,r.length+1-p.2.length):=by
 subst h;rfl
theorem tokL_mrk {c:UInt8}{r:List UInt8}(h:letB c=false)(h':digB c=false)(h'':c≠34)(h3:mkLen (c::r)≠0):tokL (c::r)=some (4,(c::r).take (mkLen (c::r)),mkLen (c::r)):=by
 rw [tokL,if_neg (by rw [h];decide),if_neg (by rw [h'];decide),if_neg h'',if_neg h3]
theorem tokL_non {c:UInt8}{r:List UInt8}(h:letB c=false)(h':digB c=false)(h'':c≠34)(h3:mkLen (c::r)=0):tokL (c::r)=none:=by
 rw [tokL,if_neg (by rw [h];decide),if_neg (by rw [h'];decide),if_neg h'',if_pos h3]
theorem letB_nb {c:UInt8}(h:letB c=true):nbB c=true:=by unfold nbB;rw [h];rfl
theorem letB_45 {c:UInt8}(h:letB c=true):c≠45:=by rintro rfl;revert h;decide
theorem trim_head {c:UInt8}{l:List UInt8}(h:c≠45):∃t,Lib.trimRightB (c::l) 45=c::t:=by
 unfold Lib.trimRightB
 rw [List.reverse_cons,List.dropWhile_append]
 split
 ·refine⟨[],?_⟩
  have:(c==45)=false:=by simpa using h
  simp [List.dropWhile_cons,this]
 ·exact⟨(List.dropWhile (· == 45) l.reverse).reverse,by simp⟩
theorem nmLen_pos {c:UInt8}{r:List UInt8}(h:letB c=true):0<nmLen (c::r):=by
 unfold nmLen
 rw [List.takeWhile_cons,if_pos (letB_nb h)]
 obtain⟨t,e⟩:=trim_head (l:=r.takeWhile nbB) (letB_45 h)
 rw [e];simp
theorem trim_len (l:List UInt8):(Lib.trimRightB l 45).length≤l.length:=by
 unfold Lib.trimRightB
 rw [List.length_reverse]
 have h:(List.dropWhile (fun x=>x==45) l.reverse).length≤l.reverse.length:=(List.dropWhile_sublist _).length_le
 rwa [List.length_reverse]at h
theorem nmLen_le (l:List UInt8):nmLen l≤l.length:=Nat.le_trans (trim_len _) (List.takeWhile_sublist _).length_le
theorem dgLen_le (l:List UInt8):dgLen l≤l.length:=(List.takeWhile_sublist _).length_le
theorem dgLen_pos {c:UInt8}{r:List UInt8}(h:digB c=true):0<dgLen (c::r):=by
 unfold dgLen;rw [List.takeWhile_cons,if_pos h];simp
theorem mkLen_le (l:List UInt8):mkLen l≤l.length:=by
 unfold mkLen
 split
 ·rename_i h
  match l,h with
  | _::_::_,_=>simp
 ·split
  ·split<;>simp
  ·simp
theorem rdq_split:∀(n:Nat) (l t r:List UInt8),l.length≤n→rdq l=some (t,r)→∃u,l=u++r∧t.length<u.length∧∀r',rdq (u++r')=some (t,r'):=by
 intro n
 induction n with
 | zero =>
  intro l t r hn h
  rw [List.length_eq_zero_iff.1 (Nat.le_zero.1 hn),rdq_nil]at h;cases h
 | succ n ih =>
  intro l t r hn h
  match l,hn,h with
  | [],_,h=>rw [rdq_nil]at h;cases h
  | c :: r0, hn, h =>
   simp only [List.length_cons]at hn
   by_cases h1:c=34
   ·rw [rdq_end h1]at h;cases h
    exact⟨[c],rfl,by simp,fun r'=>rdq_end h1⟩
   ·by_cases h2:c=92
    ·match r0,hn,h with
     | [],_,h=>rw [rdq_cut h2]at h;cases h
     | d :: r1, hn, h =>
      simp only [List.length_cons]at hn
      cases hd:escB d
      ·rw [rdq_bad h2 hd]at h;cases h
      ·rw [rdq_esc h2 hd]at h
       cases hr:rdq r1 with
       | none=>rw [hr]at h;cases h
       | some p =>
        rw [hr]at h;cases h
        obtain⟨u,hu,hl,hx⟩:=ih r1 p.1 p.2 (by omega) hr
        exact⟨c::d::u,by rw [hu];simp,by simp;omega,fun r'=>by rw [List.cons_append,List.cons_append,rdq_esc h2 hd,hx];rfl⟩
    ·rw [rdq_on h1 h2]at h
     cases hr:rdq r0 with
     | none=>rw [hr]at h;cases h
     | some p =>
      rw [hr]at h;cases h
      obtain⟨u,hu,hl,hx⟩:=ih r0 p.1 p.2 (by omega) hr
      exact⟨c::u,by rw [hu];simp,by simp;omega,fun r'=>by rw [List.cons_append,rdq_on h1 h2,hx];rfl⟩
theorem rdq_meant (n:Nat)(l t r:List UInt8)(hn:l.length≤n)(h:rdq l=some (t,r)):t.length+r.length<l.length:=by
 obtain⟨u,rfl,hl,_⟩:=rdq_split n l t r hn h
 rw [List.length_append];omega
theorem tokL_bd {l:List UInt8}{k:Int}{t:List UInt8}{z:Nat}(h:tokL l=some (k,t,z)):0<z∧z≤l.length∧t.length≤l.length∧1≤k∧k≤4:=by
 cases l with
 | nil=>cases h
 | cons c r =>
  cases h1:letB c with
  | true =>
   rw [tokL_let h1]at h;cases h
   exact⟨nmLen_pos h1,nmLen_le _,by rw [List.length_take];omega,by omega,by omega⟩
  | false =>
   cases h2:digB c with
   | true =>
    rw [tokL_dig h1 h2]at h;cases h
    exact⟨dgLen_pos h2,dgLen_le _,by rw [List.length_take];omega,by omega,by omega⟩
   | false =>
    by_cases h3:c=34
    ·rw [tokL_quo h3]at h
     cases hr:rdq r with
     | none=>rw [hr]at h;cases h
     | some p =>
      rw [hr]at h
      have hs:=rdq_short r.length r p.1 p.2 (Nat.le_refl _) hr
      have hl:=rdq_meant r.length r p.1 p.2 (Nat.le_refl _) hr
      cases h
      simp only [List.length_cons]
      omega
    ·by_cases h4:mkLen (c::r)=0
     ·rw [tokL_non h1 h2 h3 h4]at h;cases h
     ·rw [tokL_mrk h1 h2 h3 h4]at h;cases h
      exact⟨by omega,mkLen_le _,by rw [List.length_take];omega,by omega,by omega⟩
inductive Lx (N:Nat):List UInt8→List Tok→Option Nat→Prop
 | fin {l:List UInt8}:skip false l=[]→Lx N l [] none
 | bad {l:List UInt8} {c:UInt8} {r:List UInt8}:skip false l=c::r→tokL (c::r)=none→Lx N l [] (some (N-(r.length+1)))
 | tok {l:List UInt8} {c:UInt8} {r:List UInt8} {k:Int} {t:List UInt8} {z:Nat} {T:List Tok} {e:Option Nat}:skip false l=c::r→tokL (c::r)=some (k,t,z)→Lx N ((c::r).drop z) T e→Lx N l (⟨k,⟨t.toArray⟩,(N-(r.length+1):Nat)⟩::T) e
theorem Lx.skip {N:Nat}{l l':List UInt8}{T:List Tok}{e:Option Nat}(h:Lx N l T e)(hs:skip false l=skip false l'):Lx N l' T e:=by
 cases h with
 | fin h=>exact .fin (hs▸h)
 | bad h h'=>exact .bad (hs▸h) h'
 | tok h h' h''=>exact .tok (hs▸h) h' h''
theorem Lx.bd {N:Nat}{l:List UInt8}{T:List Tok}{e:Option Nat}(h:Lx N l T e):T.length≤l.length∧(∀x∈T,x.t.size≤l.length∧0≤x.p∧x.p≤N∧1≤x.k∧x.k≤4)∧∀p,e=some p→p≤N:=by
 induction h with
 | fin h=>exact⟨by simp,by simp,by simp⟩
 | bad h h'=>exact⟨by simp,by simp,fun p hp=>by cases hp;omega⟩
 | @tok l c r k t z T e h h' h'' ih =>
  obtain⟨m,hm,e'⟩:=skip_suffix l false
  have hlen:(c::r).length≤l.length:=by rw [←h,e',List.length_drop];omega
  have hb:=tokL_bd h'
  have hd:((c::r).drop z).length=(c::r).length-z:=List.length_drop
  refine⟨by rw [List.length_cons];omega,fun x hx=>?_,ih.2.2⟩
  rcases List.mem_cons.1 hx with rfl|hx
  ·have e1:(⟨t.toArray⟩:ByteArray).size=t.length:=rfl
   dsimp only
   rw [e1]
   omega
  ·have:=ih.2.1 x hx
   omega
theorem skip_idem (l:List UInt8):skip false (skip false l)=skip false l:=by
 cases h:skip false l with
 | nil=>rfl
 | cons c r =>
  obtain⟨h1,h2,h3⟩:=skip_head h
  exact skip_stop h1 h2 h3
def Sf (s:ByteArray)(k:Nat)(acc T' T:List Tok)(e:Option Nat):Prop:=Lx s.size (s.data.toList.drop k) T' e∧T=acc++T'
theorem Sf.start {s:ByteArray}{T:List Tok}{e:Option Nat}(h:Lx s.size s.data.toList T e):Sf s 0 [] T T e:=⟨by simpa using h,rfl⟩
theorem Sf.past {s:ByteArray}{k:Nat}{acc T' T:List Tok}{e:Option Nat}(hk:k≤s.size)(h:Sf s k acc T' T e):Sf s (skE s k) acc T' T e:=
 ⟨h.1.skip (by rw [skE_drop hk,skip_idem]),h.2⟩
theorem Sf.parts {s:ByteArray}{k:Nat}{acc T' T:List Tok}{e:Option Nat}(h:Sf s k acc T' T e)(hk:k<s.size)(h0:skip false (s.data.toList.drop k)=s.data.toList.drop k):
  (tokL (s.data.toList.drop k)=none∧T'=[]∧e=some k)∨∃(kd:Int) (t:List UInt8) (z:Nat) (T2:List Tok),tokL (s.data.toList.drop k)=some (kd,t,z)∧0<z∧k+z≤s.size∧t.length≤s.size∧Sf s (k+z) (acc++ [⟨kd,⟨t.toArray⟩,k⟩]) T2 T e:=by
 obtain⟨hl,rfl⟩:=h
 have hd:=data_drop s k hk
 have hlen:(s.data.toList.drop (k+1)).length+1=s.size-k:=by rw [dlen];omega
 cases hl with
 | fin h=>rw [h0,hd]at h;cases h
 | @bad _ c r h h' =>
  rw [h0]at h
  have e0:r.length+1=s.size-k:=by rw [←dlen,h,List.length_cons]
  exact .inl ⟨by rw [h];exact h',rfl,by rw [e0];congr 1;omega⟩
 | @tok _ c r kd t z T2 _ h h' h'' =>
  rw [h0]at h
  have e0:r.length+1=s.size-k:=by rw [←dlen,h,List.length_cons]
  have hb:=tokL_bd h'
  rw [List.length_cons,e0]at hb
  refine .inr ⟨kd,t,z,T2,by rw [h];exact h',hb.1,by omega,by omega,?_,?_⟩
  ·rw [←List.drop_drop,h];exact h''
  ·rw [e0,show s.size-(s.size-k)=k by omega];simp
theorem Sf.done {s:ByteArray}{k:Nat}{acc T' T:List Tok}{e:Option Nat}(h:Sf s k acc T' T e)(hk:s.size≤k):T=acc∧e=none:=by
 obtain⟨hl,rfl⟩:=h
 rw [List.drop_eq_nil_of_le (by simp;omega)]at hl
 cases hl with
 | fin h=>exact⟨by simp,rfl⟩
 | bad h h'=>rw [skip_nil]at h;cases h
 | tok h h' h''=>rw [skip_nil]at h;cases h
theorem skE_stop {s:ByteArray}{k:Nat}(hk:k≤s.size):skip false (s.data.toList.drop (skE s k))=s.data.toList.drop (skE s k):=by rw [skE_drop hk,skip_idem]
theorem skE_ge {s:ByteArray}{k:Nat}(hk:k≤s.size):k≤skE s k:=by
 obtain⟨m,hm,e⟩:=skip_suffix (s.data.toList.drop k) false
 unfold skE
 rw [e,List.length_drop,dlen];omega
def lexT (T:List Tok):Option Nat→List Tok
 | none=>T
 | some _=>[]
def lexI:Option Nat→Int
 | none=>-1
 | some p=>p
end
section
open Go.RowKit

theorem ba_of {x:ByteArray}{l:List UInt8}(h:x.data.toList=l):x=⟨l.toArray⟩:=by
 apply ByteArray.ext
 rw [←h]
theorem byte_on {c d:UInt8}(h:c=d):((c.toNat:Int)==(d.toNat:Int))=true:=by rw [h];simp
theorem skip_done {s:ByteArray}{R:List UInt8}{k:Nat}(h:skip false (s.data.toList.drop k)=R)(hk:s.size≤k):R=[]:=by
 rw [←h,List.drop_eq_nil_of_le (by simp;omega),skip_nil]
theorem iSkip_any (s:ByteArray)(hs:s.size≤1048576)(a:Nat)(ha:a≤s.size)(w:World):
  Calls Tryz.prog 62 #[.string s,.int .i64 a] w fun e w'=>e=.returned (.int .i64 (skE s a))∧w=w':=by
 obtain⟨R,hR⟩:∃R,R=skip false (s.data.toList.drop a):=⟨_,rfl⟩
 have HE:Hid (skE s a=s.size-R.length):=hid (by unfold skE;rw [hR])
 have HR0:=hid hR.symm
 clear hR
 go_enter Tryz.func62,Tryz.ntmps62
 go_wp2
 go_step3
 go_wp2
 go_step3
 go_wp2
 go_loopg [1] (s.size-a) (fun g i wx=>∃k:Nat,k+g=s.size∧i=.int .i64 k∧Hid (skip false (s.data.toList.drop k)=R)∧wx=w)
 case atStart=>exact⟨a,by omega,rfl,HR0,rfl⟩
 case round=>
  obtain⟨k,hk,rfl,HR,rfl⟩:=hrel
  by_cases hlt:k<s.size
  ·have hd:=data_drop s k hlt
   by_cases h32:s[k]=32
   ·have t1:((s[k].toNat:Int)==32)=true:=byte_on h32
    have HN:Hid (skip false (s.data.toList.drop (k+1))=R):=hid (by rw [←HR.out,hd,skip_blank (.inl h32)])
    clear hd h32
    go_wp2
    go_roundg (gk-1)
    case rel=>exact⟨k+1,by omega,by go_num,HN,rfl⟩
    case measure=>omega
   ·by_cases h10:s[k]=10
    ·have t1:((s[k].toNat:Int)==32)=false:=byte_ne (d:=32) h32
     have t2:((s[k].toNat:Int)==10)=true:=byte_on h10
     have HN:Hid (skip false (s.data.toList.drop (k+1))=R):=hid (by rw [←HR.out,hd,skip_blank (.inr h10)])
     clear hd h32 h10
     go_wp2
     go_roundg (gk-1)
     case rel=>exact⟨k+1,by omega,by go_num,HN,rfl⟩
     case measure=>omega
    ·by_cases h35:s[k]=35
     ·have t1:((s[k].toNat:Int)==32)=false:=byte_ne (d:=32) h32
      have t2:((s[k].toNat:Int)==10)=false:=byte_ne (d:=10) h10
      have t3:((s[k].toNat:Int)==35)=true:=byte_on h35
      have HN:Hid (skip true (s.data.toList.drop k)=R):=hid (by rw [←HR.out,hd,skip_hash h35])
      clear hd h32 h10 h35
      go_wp2
      obtain⟨wo,rfl⟩:∃wo:World,wo=wr:=⟨_,rfl⟩
      obtain⟨G,rfl⟩:∃G:Nat,G=gk:=⟨_,rfl⟩
      go_loopg [1] (s.size-k) (fun g i wx=>∃j:Nat,k≤j∧j+g=s.size∧j<s.size∧i=.int .i64 j∧Hid (skip true (s.data.toList.drop j)=R)∧wx=wo)
      case atStart=>exact⟨k,by omega,by omega,by omega,rfl,HN,rfl⟩
      case round=>
       clear HN t1 t2 t3
       obtain⟨j,hkj,hj,hjl,rfl,HJ,rfl⟩:=hrel
       have hd:=data_drop s j hjl
       by_cases h10:s[j]=10
       ·have t1:((s[j].toNat:Int) != 10)=false:=byte_bne (d:=10) h10
        have HM:Hid (skip false (s.data.toList.drop (j+1))=R):=hid (by rw [←HJ.out,hd,skip_line h10,skip_blank (.inr h10)])
        clear hd h10
        go_wp2
        go_roundg (G-(j+1-k))
        case rel=>exact⟨j+1,by omega,by go_num,HM,rfl⟩
        case measure=>omega
       ·have t1:((s[j].toNat:Int) != 10)=true:=byte_nbne (d:=10) h10
        have HM:Hid (skip true (s.data.toList.drop (j+1))=R):=hid (by rw [←HJ.out,hd,skip_in h10])
        clear hd h10
        by_cases hend:j+1=s.size
        ·have t2:((j:Int)+1==(s.size:Int))=true:=by simp only [beq_iff_eq];omega
         go_wp2
         rw [Exit.noGoto_ret]
         go_ret
         exact⟨ret_int (by rw [HE.out,←HM.out,List.drop_eq_nil_of_le (by simp;omega),skip_nil];simp;omega),rfl⟩
        ·have t2:((j:Int)+1==(s.size:Int))=false:=by simp only [beq_eq_false_iff_ne,ne_eq];omega
         go_wp2
         go_roundg (gk-1)
         case rel=>exact⟨j+1,by omega,by omega,by omega,by go_num,HM,rfl⟩
         case measure=>omega
     ·have t1:((s[k].toNat:Int)==32)=false:=byte_ne (d:=32) h32
      have t2:((s[k].toNat:Int)==10)=false:=byte_ne (d:=10) h10
      have t3:((s[k].toNat:Int)==35)=false:=byte_ne (d:=35) h35
      have hst:R=s.data.toList.drop k:=by rw [←HR.out,hd,skip_stop h32 h10 h35]
      have HX:Hid (skE s a=k):=hid (by rw [HE.out,hst,dlen];omega)
      clear hd h32 h10 h35 hst
      go_wp2
      rw [Exit.noGoto_ret]
      go_ret
      exact⟨ret_int (by rw [HX.out]),rfl⟩
  ·have HX:Hid (skE s a=k):=hid (by rw [HE.out,skip_done HR.out (by omega)];simp;omega)
   go_wp2
   rw [Exit.noGoto_ret]
   go_ret
   exact⟨ret_int (by rw [HX.out]),rfl⟩
theorem tw_list {p:UInt8→Bool}:∀(l:List UInt8) (k:Nat),k≤l.length→(∀j (hj:j<l.length),j<k→p l[j]=true)→(∀hk:k<l.length,p l[k]=false)→l.takeWhile p=l.take k:=by
 intro l
 induction l with
 | nil=>intro k hk _ _;simp
 | cons c r ih =>
  intro k hk h he
  cases k with
  | zero=>have:=he (by simp);simp at this;simp [this]
  | succ k =>
   have h0:=h 0 (by simp) (by omega)
   simp only [List.getElem_cons_zero]at h0
   rw [List.takeWhile_cons,if_pos h0,List.take_succ_cons]
   rw [ih k (by simpa using hk) (fun j hj hjk=>by have:=h (j+1) (by simpa using hj) (by omega);rwa [List.getElem_cons_succ]at this) (fun hk'=>by have:=he (by simpa using hk');rwa [List.getElem_cons_succ]at this)]
theorem tw {p:UInt8→Bool}{s:ByteArray}{k:Nat}(hk:k≤s.size)(h:∀j (hj:j<s.size),j<k→p s[j]=true)(he:∀hk:k<s.size,p s[k]=false):s.data.toList.takeWhile p=s.data.toList.take k:=
 tw_list _ k (by simpa using hk) (fun j hj hjk=>h j (by simpa using hj) hjk) (fun hk'=>he (by simpa using hk'))
theorem tw_len {p:UInt8→Bool}{s:ByteArray}{k:Nat}(hk:k≤s.size)(h:∀j (hj:j<s.size),j<k→p s[j]=true)(he:∀hk:k<s.size,p s[k]=false):(s.data.toList.takeWhile p).length=k:=by
 rw [tw hk h he,List.length_take];simp;omega
theorem iNumSize_any (s:ByteArray)(hs:s.size≤1048576)(w:World):
  Calls Tryz.prog 100 #[.string s] w fun e w'=>e=.returned (.int .i64 (dgLen s.data.toList))∧w=w':=by
 go_enter Tryz.func100,Tryz.ntmps100
 go_wp2
 go_loop [3] (fun i=>∃k:Nat,k≤s.size∧i=.int .i64 k∧Hid (∀j (h:j<s.size),j<k→digB s[j]=true)) (fun i=>s.size-(intOf i).toNat)
 case atStart=>exact⟨0,by omega,rfl,hid (fun _ _ h=>by omega)⟩
 case round=>
  obtain⟨k,hk,rfl,HR⟩:=hrel
  by_cases hlt:k<s.size
  ·cases ht:digB s[k]
   ·have HT:=hid ht
    clear ht
    go_wp2_with (go_at_call 99;refine(iDigB_any _ _).mono ?_;rw [HT.out];rintro e w' ⟨rfl,rfl⟩)
    go_ret
    exact⟨ret_int (by unfold dgLen;rw [tw_len hk HR.out (fun _=>HT.out)]),rfl⟩
   ·have HT:=hid ht
    clear ht
    go_wp2_with (go_at_call 99;refine(iDigB_any _ _).mono ?_;rw [HT.out];rintro e w' ⟨rfl,rfl⟩)
    go_round
    case rel=>exact⟨k+1,by omega,by go_num,hid (fun j h hj=>if he:j<k then HR.out j h he else by
        obtain rfl:j=k:=by omega
        exact HT.out)⟩
    case measure=>simp [intOf];omega
  ·go_wp2
   go_ret
   exact⟨ret_int (by unfold dgLen;rw [tw_len hk HR.out (fun h=>absurd h hlt)]),rfl⟩
theorem iNameSize_any (s:ByteArray)(hs:s.size≤1048576)(w:World):
  Calls Tryz.prog 98 #[.string s] w fun e w'=>e=.returned (.int .i64 (nmLen s.data.toList))∧w=w':=by
 go_enter Tryz.func98,Tryz.ntmps98
 go_wp2
 go_loop [3] (fun i=>∃k:Nat,k≤s.size∧i=.int .i64 k∧Hid (∀j (h:j<s.size),j<k→nbB s[j]=true)) (fun i=>s.size-(intOf i).toNat)
 case atStart=>exact⟨0,by omega,rfl,hid (fun _ _ h=>by omega)⟩
 case round=>
  obtain⟨k,hk,rfl,HR⟩:=hrel
  by_cases hlt:k<s.size
  ·cases ht:nbB s[k]
   ·have HT:=hid ht
    clear ht
    have HE:Hid ((Lib.trimRightB (s.data.toList.take k) 45).length=nmLen s.data.toList):=hid (by
     unfold nmLen;rw [tw hk HR.out (fun _=>HT.out)])
    go_wp2_with (first
     |(go_at_call 122;refine(iNb_any _ _).mono ?_;rw [HT.out];rintro e w' ⟨rfl,rfl⟩)
     |(go_at_call 123;refine(Tryz.strings_TrimRight_one (s.extract 0 k) 45 (by decide) _ (by simp;omega)).mono ?_;rintro e w' ⟨rfl,rfl⟩))
    go_ret
    exact⟨ret_int (by rw [HE.out]),rfl⟩
   ·have HT:=hid ht
    clear ht
    go_wp2_with (go_at_call 122;refine(iNb_any _ _).mono ?_;rw [HT.out];rintro e w' ⟨rfl,rfl⟩)
    go_round
    case rel=>exact⟨k+1,by omega,by go_num,hid (fun j h hj=>if he:j<k then HR.out j h he else by
        obtain rfl:j=k:=by omega
        exact HT.out)⟩
    case measure=>simp [intOf];omega
  ·have HE:Hid ((Lib.trimRightB (s.data.toList.take k) 45).length=nmLen s.data.toList):=hid (by
    unfold nmLen;rw [tw hk HR.out (fun h=>absurd h hlt)])
   go_wp2_with (go_at_call 123;refine(Tryz.strings_TrimRight_one (s.extract 0 k) 45 (by decide) _ (by simp;omega)).mono ?_;rintro e w' ⟨rfl,rfl⟩)
   go_ret
   exact⟨ret_int (by rw [HE.out]),rfl⟩
theorem indexByte_has (l:List UInt8)(c:UInt8):(l.contains c=true∧0≤Lib.indexByte l c)∨(l.contains c=false∧Lib.indexByte l c=-1):=by
 induction l with
 | nil=>exact .inr ⟨rfl,rfl⟩
 | cons b r ih =>
  unfold Lib.indexByte
  by_cases h:b=c
  ·subst h;exact .inl ⟨by simp,by simp⟩
  ·have h1:(b==c)=false:=by simpa using h
   have h2:(c==b)=false:=by simpa using fun e=>h e.symm
   rw [h1,List.contains_cons,h2,Bool.false_or]
   rcases ih with ⟨i1,i2⟩|⟨i1,i2⟩
   ·refine .inl ⟨i1,?_⟩
    have h3:(Lib.indexByte r c == -1)=false:=by simp;omega
    rw [h3]
    have e:(if false=true then(0:Int)else if false=true then -1 else Lib.indexByte r c+1)=Lib.indexByte r c+1:=by simp
    omega
   ·exact .inr ⟨i1,by rw [i2];rfl⟩
theorem mk2_short {l:List UInt8}(h:l.length<2):mk2 l=false:=by
 match l,h with
 | [],_=>rfl
 | [_],_=>rfl
theorem mkLen_one {c:UInt8}{r:List UInt8}(h:mk2 (c::r)=false):mkLen (c::r)=if marks1.contains c=true then 1 else 0:=by
 unfold mkLen;rw [h];rfl
theorem mkLen_two {l:List UInt8}(h:mk2 l=true):mkLen l=2:=by unfold mkLen;rw [if_pos h]
theorem mk_yes {s:ByteArray}(h0:0<s.size)(hm:mk2 s.data.toList=false)(h:0≤Lib.indexByte [123,125,59,91,93,40,41,60,62,61,43,45,47,124,46,44,36,58] s[0]):(1:Int)=(mkLen s.data.toList:Nat):=by
 rw [data_cons s h0]at hm ⊢
 rw [mkLen_one hm]
 rcases indexByte_has marks1 s[0]with ⟨i1,_⟩|⟨_,i2⟩
 ·rw [i1];rfl
 ·unfold marks1 at i2;omega
theorem mk_no {s:ByteArray}(h0:0<s.size)(hm:mk2 s.data.toList=false)(h:Lib.indexByte [123,125,59,91,93,40,41,60,62,61,43,45,47,124,46,44,36,58] s[0]<0):(0:Int)=(mkLen s.data.toList:Nat):=by
 rw [data_cons s h0]at hm ⊢
 rw [mkLen_one hm]
 rcases indexByte_has marks1 s[0]with ⟨_,i2⟩|⟨i1,_⟩
 ·unfold marks1 at i2;omega
 ·rw [i1];rfl
theorem mk2_ex {s:ByteArray}(h:2≤s.size):mk2 s.data.toList=((s.extract 0 2).toList == [33,61] || (s.extract 0 2).toList == [60,61] || (s.extract 0 2).toList == [62,61] || (s.extract 0 2).toList == [46,46]):=by
 rw [Lib.toList_data,Lib.extract_data]
 have hl:s.data.toList.length=s.size:=by simp
 match s.data.toList,hl with
 | [],hl=>simp at hl;omega
 | [_],hl=>simp at hl;omega
 | c :: d :: r, _ =>
  have e:∀a b:UInt8,([c,d] == [a,b])=(c==a&&d==b):=fun a b=>by
   rw [Bool.eq_iff_iff];simp
  simp only [List.drop_zero,Nat.sub_zero,List.take_succ_cons,List.take_zero,e]
  rfl
theorem iMark_any (s:ByteArray)(hs:s.size≤1048576)(h0:0<s.size)(w:World):
  Calls Tryz.prog 102 #[.string s] w fun e w'=>e=.returned (.int .i64 (mkLen s.data.toList))∧w=w':=by
 by_cases h2:2≤s.size
 ·have hx:=mk2_ex h2
  have fin:mk2 s.data.toList=true→(2:Int)=(mkLen s.data.toList:Nat):=fun h=>by rw [mkLen_two h];rfl
  cases h1:((s.extract 0 2).toList == [33,61])
  ·cases h2:((s.extract 0 2).toList == [60,61])
   ·cases h3:((s.extract 0 2).toList == [62,61])
    ·cases h4:((s.extract 0 2).toList == [46,46])
     ·rw [h1,h2,h3,h4]at hx
      have HX:Hid (mk2 s.data.toList=false):=hid hx
      clear fin hx
      go_enter Tryz.func102,Tryz.ntmps102
      go_wp2_with (go_at_call 124;refine(Tryz.strings_IndexByte _ _ _).mono ?_;rintro e w' ⟨rfl,rfl⟩)
      all_goals
       go_ret
       exact⟨ret_int (by first|exact mk_yes h0 HX.out (by assumption)|exact mk_no h0 HX.out (by assumption)),rfl⟩
     ·rw [h1,h2,h3,h4]at hx
      have HX:=hid (fin hx)
      clear fin hx
      go_enter Tryz.func102,Tryz.ntmps102
      go_wp2
      go_ret
      exact⟨ret_int HX.out,rfl⟩
    ·rw [h1,h2,h3]at hx
     have HX:=hid (fin hx)
     clear fin hx
     go_enter Tryz.func102,Tryz.ntmps102
     go_wp2
     go_ret
     exact⟨ret_int HX.out,rfl⟩
   ·rw [h1,h2]at hx
    have HX:=hid (fin hx)
    clear fin hx
    go_enter Tryz.func102,Tryz.ntmps102
    go_wp2
    go_ret
    exact⟨ret_int HX.out,rfl⟩
  ·rw [h1]at hx
   have HX:=hid (fin hx)
   clear fin hx
   go_enter Tryz.func102,Tryz.ntmps102
   go_wp2
   go_ret
   exact⟨ret_int HX.out,rfl⟩
 ·have hm:=hid (mk2_short (l:=s.data.toList) (by simp;omega))
  go_enter Tryz.func102,Tryz.ntmps102
  go_wp2_with (go_at_call 124;refine(Tryz.strings_IndexByte _ _ _).mono ?_;rintro e w' ⟨rfl,rfl⟩)
  all_goals
   go_ret
   exact⟨ret_int (by first|exact mk_yes h0 hm.out (by assumption)|exact mk_no h0 hm.out (by assumption)),rfl⟩
end
section
open Go.RowKit
end
section
open Go.RowKit

theorem box3f {w w1:World}{v0 v1 v2:Value}{t:TypeId}(h:Below (w.alloc (.cells #[v0,v1,v2] t)).heap.size (w.alloc (.cells #[v0,v1,v2] t)) w1):
  (w1.cell? ⟨w.heap.size,0,none⟩=some v0∧w1.cell? ⟨w.heap.size,1,none⟩=some v1∧w1.cell? ⟨w.heap.size,2,none⟩=some v2)∧
  w1.frozen? ⟨w.heap.size,0,none⟩=false∧w1.frozen? ⟨w.heap.size,1,none⟩=false∧w1.frozen? ⟨w.heap.size,2,none⟩=false:=by
 have hl:w.heap.size<(w.alloc (.cells #[v0,v1,v2] t)).heap.size:=by simp
 have hf:∀j,w1.frozen? ⟨w.heap.size,j,none⟩=false:=fun j=>by
  rw [h.frozen (p:=⟨w.heap.size,j,none⟩) hl]
  unfold World.frozen?
  dsimp only
  rw [heap_alloc_new]
  simp
 exact⟨box3 h,hf 0,hf 1,hf 2⟩
theorem iTok_some (s:ByteArray)(hs:s.size≤1048576)(a:Nat)(ha:a<s.size)(k:Int)(t:List UInt8)(z:Nat)(h:tokL (s.data.toList.drop a)=some (k,t,z))(w:World):
  Calls Tryz.prog 63 #[.string s,.int .i64 a] w fun e w'=>e=.returned (.tuple #[.agg #[.int .i64 k,.string ⟨t.toArray⟩,.int .i64 a],.int .i64 z])∧Below w.heap.size w w':=by
 have hr:(s.extract a s.size).data.toList=s.data.toList.drop a:=Lib.extract_to_end s a
 have hz:(s.extract a s.size).size=s.size-a:=by simp
 have h0:0<(s.extract a s.size).size:=by omega
 have hc:=data_cons _ h0
 have h':=h
 rw [←hr,hc]at h'
 have hle:(s.extract a s.size).size≤1048576:=by omega
 cases h1:letB (s.extract a s.size)[0]
 ·cases h2:digB (s.extract a s.size)[0]
  ·by_cases h3:(s.extract a s.size)[0]=34
   ·have t3:(((s.extract a s.size)[0].toNat:Int)==34)=true:=byte_on h3
    rw [tokL_quo h3]at h'
    have C:=iReadQ_any _ hle
    rw [quotedAt_is h0 h3]at C
    cases hq:rdq ((s.extract a s.size).data.toList.drop 1)with
    | none=>rw [hq]at h';cases h'
    | some p =>
     rw [show(0:Nat)+1=1 from rfl,hq]at C
     rw [hq]at h'
     cases h'
     have hsh:=rdq_short _ _ p.1 p.2 (Nat.le_refl _) hq
     rw [hr,List.drop_drop,dlen]at hsh
     have e0:((s.extract a s.size).data.toList.drop 1).length+1-p.2.length=s.size-a-p.2.length:=by rw [hr,List.drop_drop,dlen];omega
     rw [e0]
     simp only [Option.map_some,readV,hz]at C
     generalize s.size-a-p.2.length=n at C ⊢
     clear hq hr hc h e0 h3
     go_enter Tryz.func63,Tryz.ntmps63
     go_wp2_with (first
      |(go_at_call 97;refine(iLet_any _ _).mono ?_;rw [h1];rintro e w' ⟨rfl,rfl⟩)
      |(go_at_call 99;refine(iDigB_any _ _).mono ?_;rw [h2];rintro e w' ⟨rfl,rfl⟩)
      |(go_at_call 101;refine(C _).mono ?_;rintro e w' ⟨rfl,hb⟩;obtain⟨⟨c0,c1,c2⟩,f0,f1,f2⟩:=box3f hb))
     exact bodyPost_ret (v:=.tuple #[.agg #[.int .i64 3,.string ⟨p.1.toArray⟩,.int .i64 a],.int .i64 n]) (by simp [results,Tryz.results63,go_sem,c0,c1,c2]) rfl ⟨rfl,(((below_step (below_al (Below.refl _ _) _) hb).setCell (Nat.le_refl _) _).setCell (Nat.le_refl _) _).setCell (Nat.le_refl _) _⟩
   ·have t3:(((s.extract a s.size)[0].toNat:Int)==34)=false:=byte_ne (d:=34) h3
    by_cases h4:mkLen ((s.extract a s.size)[0]::(s.extract a s.size).data.toList.drop 1)=0
    ·rw [tokL_non h1 h2 h3 h4]at h';cases h'
    ·rw [tokL_mrk h1 h2 h3 h4,←hc,hr]at h'
     cases h'
     have C:=iMark_any _ hle h0
     rw [hr]at C
     have hnl:=mkLen_le (s.data.toList.drop a)
     rw [dlen]at hnl
     have ht:Hid (∀n,(s.extract a s.size).extract 0 n=⟨((s.data.toList.drop a).take n).toArray⟩):=hid fun n=>ba_of (by rw [Lib.extract_data,hr];simp)
     clear hr hc h h3 h4
     generalize mkLen (s.data.toList.drop a)=n at C hnl ⊢
     go_enter Tryz.func63,Tryz.ntmps63
     go_wp2_with (first
      |(go_at_call 97;refine(iLet_any _ _).mono ?_;rw [h1];rintro e w' ⟨rfl,rfl⟩)
      |(go_at_call 99;refine(iDigB_any _ _).mono ?_;rw [h2];rintro e w' ⟨rfl,rfl⟩)
      |(go_at_call 102;refine(C _).mono ?_;rintro e w' ⟨rfl,rfl⟩))
     exact bodyPost_ret (v:=.tuple #[.agg #[.int .i64 4,.string ((s.extract a s.size).extract 0 n),.int .i64 a],.int .i64 n]) (by simp [results,Tryz.results63,go_sem]) rfl ⟨by rw [ht.out],below_al (Below.refl _ _) _⟩
  ·rw [tokL_dig h1 h2,←hc,hr]at h'
   cases h'
   have C:=iNumSize_any _ hle
   rw [hr]at C
   have hnl:=dgLen_le (s.data.toList.drop a)
   rw [dlen]at hnl
   have ht:Hid (∀n,(s.extract a s.size).extract 0 n=⟨((s.data.toList.drop a).take n).toArray⟩):=hid fun n=>ba_of (by rw [Lib.extract_data,hr];simp)
   clear hr hc h
   generalize dgLen (s.data.toList.drop a)=n at C hnl ⊢
   go_enter Tryz.func63,Tryz.ntmps63
   go_wp2_with (first
    |(go_at_call 97;refine(iLet_any _ _).mono ?_;rw [h1];rintro e w' ⟨rfl,rfl⟩)
    |(go_at_call 99;refine(iDigB_any _ _).mono ?_;rw [h2];rintro e w' ⟨rfl,rfl⟩)
    |(go_at_call 100;refine(C _).mono ?_;rintro e w' ⟨rfl,rfl⟩))
   exact bodyPost_ret (v:=.tuple #[.agg #[.int .i64 2,.string ((s.extract a s.size).extract 0 n),.int .i64 a],.int .i64 n]) (by simp [results,Tryz.results63,go_sem]) rfl ⟨by rw [ht.out],below_al (Below.refl _ _) _⟩
 ·rw [tokL_let h1,←hc,hr]at h'
  cases h'
  have C:=iNameSize_any _ hle
  rw [hr]at C
  have hnl:=nmLen_le (s.data.toList.drop a)
  rw [dlen]at hnl
  have ht:Hid (∀n,(s.extract a s.size).extract 0 n=⟨((s.data.toList.drop a).take n).toArray⟩):=hid fun n=>ba_of (by rw [Lib.extract_data,hr];simp)
  clear hr hc h
  generalize nmLen (s.data.toList.drop a)=n at C hnl ⊢
  go_enter Tryz.func63,Tryz.ntmps63
  go_wp2_with (first
   |(go_at_call 97;refine(iLet_any _ _).mono ?_;rw [h1];rintro e w' ⟨rfl,rfl⟩)
   |(go_at_call 98;refine(C _).mono ?_;rintro e w' ⟨rfl,rfl⟩))
  exact bodyPost_ret (v:=.tuple #[.agg #[.int .i64 1,.string ((s.extract a s.size).extract 0 n),.int .i64 a],.int .i64 n]) (by simp [results,Tryz.results63,go_sem]) rfl ⟨by rw [ht.out],below_al (Below.refl _ _) _⟩
theorem iTok_none (s:ByteArray)(hs:s.size≤1048576)(a:Nat)(ha:a<s.size)(h:tokL (s.data.toList.drop a)=none)(w:World):
  Calls Tryz.prog 63 #[.string s,.int .i64 a] w fun e w'=>(∃(k:Int) (t:ByteArray),e=.returned (.tuple #[.agg #[.int .i64 k,.string t,.int .i64 a],.int .i64 0]))∧Below w.heap.size w w':=by
 have hr:(s.extract a s.size).data.toList=s.data.toList.drop a:=Lib.extract_to_end s a
 have hz:(s.extract a s.size).size=s.size-a:=by simp
 have h0:0<(s.extract a s.size).size:=by omega
 have hc:=data_cons _ h0
 have h':=h
 rw [←hr,hc]at h'
 have hle:(s.extract a s.size).size≤1048576:=by omega
 cases h1:letB (s.extract a s.size)[0]
 ·cases h2:digB (s.extract a s.size)[0]
  ·by_cases h3:(s.extract a s.size)[0]=34
   ·have t3:(((s.extract a s.size)[0].toNat:Int)==34)=true:=byte_on h3
    rw [tokL_quo h3]at h'
    have C:=iReadQ_any _ hle
    rw [quotedAt_is h0 h3]at C
    cases hq:rdq ((s.extract a s.size).data.toList.drop 1)with
    | some p=>rw [hq]at h';cases h'
    | none =>
     rw [show(0:Nat)+1=1 from rfl,hq]at C
     simp only [Option.map_none,readV]at C
     clear hq hr hc h h3 h'
     go_enter Tryz.func63,Tryz.ntmps63
     go_wp2_with (first
      |(go_at_call 97;refine(iLet_any _ _).mono ?_;rw [h1];rintro e w' ⟨rfl,rfl⟩)
      |(go_at_call 99;refine(iDigB_any _ _).mono ?_;rw [h2];rintro e w' ⟨rfl,rfl⟩)
      |(go_at_call 101;refine(C _).mono ?_;rintro e w' ⟨rfl,hb⟩;obtain⟨⟨c0,c1,c2⟩,f0,f1,f2⟩:=box3f hb))
     exact bodyPost_ret (v:=.tuple #[.agg #[.int .i64 3,.string ⟨#[]⟩,.int .i64 a],.int .i64 0]) (by simp [results,Tryz.results63,go_sem,c0,c1,c2]) rfl ⟨⟨_,_,rfl⟩,(((below_step (below_al (Below.refl _ _) _) hb).setCell (Nat.le_refl _) _).setCell (Nat.le_refl _) _).setCell (Nat.le_refl _) _⟩
   ·have t3:(((s.extract a s.size)[0].toNat:Int)==34)=false:=byte_ne (d:=34) h3
    by_cases h4:mkLen ((s.extract a s.size)[0]::(s.extract a s.size).data.toList.drop 1)=0
    ·have C:=iMark_any _ hle h0
     rw [hc,h4]at C
     clear hr hc h h3 h4 h'
     go_enter Tryz.func63,Tryz.ntmps63
     go_wp2_with (first
      |(go_at_call 97;refine(iLet_any _ _).mono ?_;rw [h1];rintro e w' ⟨rfl,rfl⟩)
      |(go_at_call 99;refine(iDigB_any _ _).mono ?_;rw [h2];rintro e w' ⟨rfl,rfl⟩)
      |(go_at_call 102;refine(C _).mono ?_;rintro e w' ⟨rfl,rfl⟩))
     exact bodyPost_ret (v:=.tuple #[.agg #[.int .i64 4,.string ((s.extract a s.size).extract 0 0),.int .i64 a],.int .i64 0]) (by simp [results,Tryz.results63,go_sem]) rfl ⟨⟨_,_,rfl⟩,below_al (Below.refl _ _) _⟩
    ·rw [tokL_mrk h1 h2 h3 h4]at h';cases h'
  ·rw [tokL_dig h1 h2]at h';cases h'
 ·rw [tokL_let h1]at h';cases h'
end
section
open Go.RowKit

theorem heap_new1' (w:World)(o1 o2:Obj):((w.alloc o1).alloc o2).heap[w.heap.size+1]? =some o2:=by
 have h:=heap_alloc_new (w.alloc o1) o2
 have e:(w.alloc o1).heap.size=w.heap.size+1:=by simp
 rwa [e]at h
theorem iSkip_add (s:ByteArray)(hs:s.size≤1048576)(a z:Nat)(ha:a+z≤s.size)(w:World):
  Calls Tryz.prog 62 #[.string s,.int .i64 ((a:Int)+(z:Int))] w fun e w'=>e=.returned (.int .i64 (skE s (a+z)))∧w=w':=by
 have h:=iSkip_any s hs (a+z) ha w
 rwa [Int.natCast_add]at h
theorem iLex_any (s:ByteArray)(hs:s.size≤1048576)(T:List Tok)(e:Option Nat)(hL:Lx s.size s.data.toList T e)(w:World):
  Calls Tryz.prog 31 #[.string s] w fun en w'=>∃v,en=.returned (.tuple #[v,.int .i64 (lexI e)])∧RowT w.heap.size w' v (lexT T e)∧Below w.heap.size w w':=by
 have H0:=hid (Sf.past (Nat.zero_le _) (Sf.start hL))
 have HS0:=hid (skE_stop (s:=s) (Nat.zero_le _))
 have hk0:=skE_le s 0
 clear hL
 have C0:=iSkip_any s hs 0 (Nat.zero_le _)
 generalize skE s 0=k0 at H0 HS0 hk0 C0
 go_enter Tryz.func31,Tryz.ntmps31
 go_wp2_with (go_at_call 62;refine(C0 _).mono ?_;rintro e w' ⟨rfl,rfl⟩)
 go_loopw [4,5] (fun v i wr=>∃(k g c n:Nat) (acc T':List Tok),k≤s.size∧n≤k∧i=.int .i64 k∧v=.slice (some ⟨g,0,none⟩) n c∧RowT w.heap.size wr (.slice (some ⟨g,0,none⟩) n c) acc∧Hid (skip false (s.data.toList.drop k)=s.data.toList.drop k)∧Hid (Sf s k acc T' T e)∧Below w.heap.size w wr) (fun _ i _=>s.size-(intOf i).toNat)
 case atStart=>exact⟨k0,w.heap.size,0,0,[],T,hk0,Nat.zero_le _,rfl,rfl,rowR_empty (heap_alloc_new w _) (Nat.le_refl _),HS0,H0,below_al (Below.refl _ _) _⟩
 case round=>
  clear H0 HS0 hk0 C0
  obtain⟨k,g,c,n,acc,T',hk,hnk,rfl,rfl,hrow,HS,HF,hbel⟩:=hrel
  by_cases hlt:k<s.size
  ·rcases HF.out.parts hlt HS.out with ⟨h1,rfl,rfl⟩|⟨kd,t,z,T2,h1,hz0,hz1,ht,h2⟩
   ·have C:=iTok_none s hs k hlt h1
    clear h1 HF
    go_wp2_with (go_at_call 63;refine(C _).mono ?_;rintro e w1 ⟨⟨kd,t,rfl⟩,hb1⟩)
    go_ret2
    have hbel1:=below_step hbel hb1
    exact⟨_,rfl,rowR_empty (heap_new1' _ _ _) (Nat.le_trans hbel1.size (Nat.le_succ _)),below_al (below_al hbel1 _) _⟩
   ·have C:=iTok_some s hs k hlt kd t z h1
    have D:=iSkip_add s hs k z hz1
    have hne:((z:Int)==0)=false:=by simp only [beq_eq_false_iff_ne,ne_eq];omega
    have hle:=skE_le s (k+z)
    have hge:=skE_ge (s:=s) hz1
    have HS2:=hid (skE_stop (s:=s) hz1)
    have HF2:=hid (Sf.past hz1 h2)
    generalize skE s (k+z)=k2 at D hle hge HS2 HF2
    clear h1 HF h2
    go_wp2_with (first
     |(go_at_call 63;refine(C _).mono ?_;rintro e w1 ⟨rfl,hb1⟩;have hrow1:=RowR.alloc (RowR.below hrow hb1) (.cells #[.int .i64 kd,.string ⟨t.toArray⟩,.int .i64 k] 98);have hbel1:=below_al (below_step hbel hb1) (.cells #[.int .i64 kd,.string ⟨t.toArray⟩,.int .i64 k] 98);have hgB:=(RowR.lt hrow rfl).1;clear hrow hb1)
     |(at_builtin;refine wpList_tok_append rfl _ _ rfl w.heap.size g n c _ rfl hrow1 ⟨kd,⟨t.toArray⟩,k⟩ _ rfl (by simp) (by omega) hbel1.size (n+1) rfl ?_;clear hrow1;intro g' c'' w2 hrow2 hg2)
     |(go_at_call 62;refine(D _).mono ?_;rintro e w' ⟨rfl,rfl⟩))
    go_roundw
    case rel=>exact⟨k2,g',c'',n+1,_,T2,hle,by omega,rfl,rfl,hrow2,HS2,HF2,(below_al hbel1 _).grown hg2 (below_al hbel1 _).size (fun _ h=>by cases h;exact hgB)⟩
    case measure=>simp [intOf];omega
  ·obtain⟨rfl,rfl⟩:=HF.out.done (by omega)
   go_wp2
   go_ret2
   exact⟨_,rfl,hrow,hbel⟩
end
section
open Go.RowKit
end
section
open Go.RowKit
end
section
open Go.RowKit NumP

structure Par (B:Nat) (b:Nat) (A:Option Addr) (n cap:Nat) (T:List Tok) (i:Nat) (bad:Bool) (w:World):Prop where
 c0:w.cell? ⟨b,0,none⟩=some (.slice A n cap)
 c1:w.cell? ⟨b,1,none⟩=some (.int .i64 i)
 c2:w.cell? ⟨b,2,none⟩=some (.bool bad)
 f1:w.frozen? ⟨b,1,none⟩=false
 f2:w.frozen? ⟨b,2,none⟩=false
 lo:B≤b
 hi:b<w.heap.size
 tk:HasT w (.slice A n cap) T
 tb:∀a,A=some a→a.block<b
 le:i≤n
section
variable {B b n cap i:Nat} {A:Option Addr} {T:List Tok} {bad:Bool} {w w':World}
end
end
section
open Go.RowKit NumP

section
variable {B b n cap i:Nat} {A:Option Addr} {T:List Tok} {w:World}
end
end
section
open Go.RowKit NumP

def RsV (B:Nat)(res:Option (List Rg×Nat))(e:Ending)(w':World):Prop:=match res with
 | some (R,k)=>∃v',e=.returned (.tuple #[v',.int .i64 k])∧RowG B w' v' R
 | none=>∃v',e=.returned (.tuple #[v',.int .i64 0])∧RowG B w' v' []
theorem rgV_none {o:Option (Rg×Nat)}(h:o=none):rgV o=.tuple #[.agg #[.int .i64 0,.int .i64 0],.int .i64 0]:=by rw [h];rfl
theorem rgV_some {o:Option (Rg×Nat)}{x:Rg}{k:Nat}(h:o=some (x,k)):rgV o=.tuple #[.agg #[.int .i64 x.lo,.int .i64 x.hi],.int .i64 k]:=by rw [h];rfl
theorem rowG_new2 (w:World)(o:Obj)(B:Nat)(h:B≤w.heap.size):RowG B ((w.alloc o).alloc (.cells #[] 80)) (.slice (some ⟨w.heap.size+1,0,none⟩) 0 0) []:=by
 have:=rowG_new (w.alloc o) B (by simp;omega)
 simpa using this
theorem HasT.cutN {w:World}{a:Addr}{n cap:Nat}{l:List Tok}(h:HasT w (.slice (some a) n cap) l)(hc:n≤cap){k:Nat}(hk:k≤n)(e:¬cap=k):HasT w (.slice (some (a.add (k*3))) (n-k) (cap-k)) (l.drop k):=by
 have:=HasT.cut h hc hk
 rwa [if_neg e]at this
theorem HasT.cutE {w:World}{a:Addr}{n cap:Nat}{l:List Tok}(h:HasT w (.slice (some a) n cap) l)(hc:n≤cap){k:Nat}(hk:k≤n)(e:cap=k):HasT w (.slice (some a) (n-k) (cap-k)) (l.drop k):=by
 have:=HasT.cut h hc hk
 rwa [if_pos e]at this
theorem iRs_some (a:Addr)(n cap:Nat)(T:List Tok)(w:World)(hv:HasT w (.slice (some a) n cap) T)(hc:n≤cap)(hcm:cap≤9223372036854775807)(hnb:n≤1048576)(hs:∀x∈T,x.t.size≤1048576)(res:Option (List Rg×Nat))(hr:Run T 0 [] res):
  Calls Tryz.prog 65 #[.slice (some a) n cap] w fun e w'=>RsV w.heap.size res e w'∧Below w.heap.size w w':=by
 obtain⟨hn,hn'⟩:=hv.size
 have HN:=hid hn
 have HR:=hid hr
 have HV:Hid (∀W,Below w.heap.size w W→HasT W (.slice (some a) n cap) T):=hid fun W h=>HasR.below hv h
 have HSD:Hid (∀p,∀x∈T.drop p,x.t.size≤1048576):=hid fun p x hx=>hs x (List.mem_of_mem_drop hx)
 have hrow0:RowG w.heap.size (w.alloc (.cells #[] 80)) (.slice (some ⟨w.heap.size,0,none⟩) 0 0) []:=rowG_new w _ (Nat.le_refl _)
 have hb0:Below w.heap.size w (w.alloc (.cells #[] 80)):=below_al (Below.refl _ _) _
 have hnc':(n:Int)≤(cap:Int):=by omega
 clear hv hs hr hn
 go_enter Tryz.func65,Tryz.ntmps65
 go_wp2
 go_loopw [4,5] (fun u i wr=>∃(p m g c:Nat) (R:List Rg),p≤n∧m≤p∧i=.int .i64 p∧u=.slice (some ⟨g,0,none⟩) m c∧Hid (Run T p R res)∧RowG w.heap.size wr (.slice (some ⟨g,0,none⟩) m c) R∧Below w.heap.size w wr) (fun _ i _=>n-(intOf i).toNat)
 case atStart=>exact⟨0,0,w.heap.size,0,[],by omega,by omega,rfl,rfl,HR,hrow0,hb0⟩
 case round=>
  obtain⟨p,m,g,c,R,hp,hm,rfl,rfl,HRun,hrow,hbel⟩:=hrel
  clear hrow0 hb0
  have hpn':(p:Int)≤(n:Int):=by omega
  have hpc':(p:Int)≤(cap:Int):=by omega
  have hgb:=(hrow.lt rfl).1
  rcases HRun.out.inv with ⟨h1,h2⟩|⟨x,k,h1,h2⟩
  ·have HE:=hid (rgV_none h1)
   have HRES:Hid (res=none):=hid h2
   clear h1 h2 hrow
   by_cases hcp:cap=p
   ·have HC:Hid (∀W,Below w.heap.size w W→HasT W (.slice (some a) 0 0) (T.drop p)):=hid fun W h=>by
     have:=(HV.out W h).cutE hc hp hcp
     rwa [show cap-p=0 by omega,show n-p=0 by omega]at this
    obtain rfl:p=cap:=hcp.symm
    go_wp2_with (go_at_call 103;((with_reducible refine(iRg_any _ _ _ (T.drop p) _ (HC.out _ hbel) (by omega) (by omega) (HSD.out p)).mono ?_));rw [HE.out];rintro e w1 ⟨rfl,hb⟩)
    go_ret2
    have hB1:Below w.heap.size w w1:=below_step hbel hb
    rw [HRES.out]
    exact⟨⟨_,rfl,rowG_new2 _ _ _ hB1.size⟩,below_al (below_al hB1 _) _⟩
   ·have HC:Hid (∀W,Below w.heap.size w W→HasT W (.slice (some (a.add (p*3))) (n-p) (cap-p)) (T.drop p)):=hid fun W h=>(HV.out W h).cutN hc hp hcp
    go_wp2_with (go_at_call 103;((with_reducible refine(iRg_any _ _ _ (T.drop p) _ (HC.out _ hbel) (by omega) (by omega) (HSD.out p)).mono ?_));rw [HE.out];rintro e w1 ⟨rfl,hb⟩)
    go_ret2
    have hB1:Below w.heap.size w w1:=below_step hbel hb
    rw [HRES.out]
    exact⟨⟨_,rfl,rowG_new2 _ _ _ hB1.size⟩,below_al (below_al hB1 _) _⟩
  ·have HE:=hid (rgV_some h1)
   obtain⟨k1,k2⟩:=rdR_len h1
   rw [List.length_drop,←HN.out]at k2
   clear h1
   have hpk:p+k≤n:=by omega
   have hcp:¬cap=p:=by omega
   have HC:Hid (∀W,Below w.heap.size w W→HasT W (.slice (some (a.add (p*3))) (n-p) (cap-p)) (T.drop p)):=hid fun W h=>(HV.out W h).cutN hc hp hcp
   have hk00:((k:Int)==0)=false:=by simp;omega
   have hk000:(k==0)=false:=by simp;omega
   have hk0:(1:Int)≤(k:Int):=by omega
   have hpk':(p:Int)+(k:Int)≤(n:Int):=by omega
   have hpkc':(p:Int)+(k:Int)≤(cap:Int):=by omega
   have hpk0:(0:Int)≤(p:Int)+(k:Int):=by omega
   have hpkt:((p:Int)+(k:Int)).toNat=p+k:=by omega
   have hw1:IntKind.i64.wrap ((p:Int)+(k:Int))=(p:Int)+(k:Int):=IntWalk.i64_in _ (by omega)
   have HM1:Hid (m+1≤549755813888):=hid (by omega)
   rcases h2 with ⟨hmk,h2⟩|⟨hmk,h2⟩
   ·have HMK:Hid (mkB (T.drop (p+k)) ⟨#[124]⟩=false):=hid hmk
    have HRES:Hid (res=some (R++ [x],p+k)):=hid h2
    clear hmk h2
    by_cases hcq:cap=p+k
    ·have HC2:Hid (∀W,Below w.heap.size w W→HasT W (.slice (some a) 0 0) (T.drop (p+k))):=hid fun W h=>by
      have:=(HV.out W h).cutE hc hpk hcq
      rwa [show cap-(p+k)=0 by omega,show n-(p+k)=0 by omega]at this
     have HCk:=hid fun W (h:Below w.heap.size w W)=>(show HasT W (.slice (some (a.add (p*3))) (n-p) k) (T.drop p)by
      have:=HC.out W h
      rwa [show cap-p=k by omega]at this)
     clear HC
     subst hcq
     go_wp2_with (first
      |(go_at_call 103;((with_reducible refine(iRg_any _ _ _ (T.drop p) _ (HCk.out _ hbel) (by omega) (by omega) (HSD.out p)).mono ?_));rw [HE.out];rintro e w1 ⟨rfl,hb⟩;have hrow1:=RowR.below hrow hb;have hbel1:=below_step hbel hb;have hrow2:=RowR.alloc hrow1 (.cells #[.int .i64 x.lo,.int .i64 x.hi] 80);have hbel2:=below_al hbel1 (.cells #[.int .i64 x.lo,.int .i64 x.hi] 80);clear hb hrow hbel hrow1 hbel1)
      |(at_builtin;refine wpList_rng_append rfl _ _ rfl w.heap.size g m c R (by rfl) hrow2 x (w1.heap.size+1) (by rfl) (by simp) HM1.out hbel2.size (m+1) rfl ?_;intro g' c' w4 hrow4 hg4;have hbel4:=(below_al hbel2 (.cells #[.int .i64 x.lo,.int .i64 x.hi] 80)).grown hg4 (below_al hbel2 _).size (fun _ h=>by cases h;exact hgb);clear hrow2 hbel2 hg4)
      |(go_at_call 104;((with_reducible refine(iMk_any _ _ _ (T.drop (p+k)) ⟨#[124]⟩ _ (HC2.out _ hbel4)).mono ?_));rw [HMK.out];rintro e w' ⟨rfl,rfl⟩))
     go_ret2
     rw [HRES.out]
     exact⟨⟨.slice (some ⟨g',0,none⟩) (m+1) c',by rw [Int.natCast_add];rfl,hrow4⟩,hbel4⟩
    ·have HC2:Hid (∀W,Below w.heap.size w W→HasT W (.slice (some (a.add ((p+k)*3))) (n-(p+k)) (cap-(p+k))) (T.drop (p+k))):=hid fun W h=>(HV.out W h).cutN hc hpk hcq
     go_wp2_with (first
      |(go_at_call 103;((with_reducible refine(iRg_any _ _ _ (T.drop p) _ (HC.out _ hbel) (by omega) (by omega) (HSD.out p)).mono ?_));rw [HE.out];rintro e w1 ⟨rfl,hb⟩;have hrow1:=RowR.below hrow hb;have hbel1:=below_step hbel hb;have hrow2:=RowR.alloc hrow1 (.cells #[.int .i64 x.lo,.int .i64 x.hi] 80);have hbel2:=below_al hbel1 (.cells #[.int .i64 x.lo,.int .i64 x.hi] 80);clear hb hrow hbel hrow1 hbel1)
      |(at_builtin;refine wpList_rng_append rfl _ _ rfl w.heap.size g m c R (by rfl) hrow2 x (w1.heap.size+1) (by rfl) (by simp) HM1.out hbel2.size (m+1) rfl ?_;intro g' c' w4 hrow4 hg4;have hbel4:=(below_al hbel2 (.cells #[.int .i64 x.lo,.int .i64 x.hi] 80)).grown hg4 (below_al hbel2 _).size (fun _ h=>by cases h;exact hgb);clear hrow2 hbel2 hg4)
      |(go_at_call 104;((with_reducible refine(iMk_any _ _ _ (T.drop (p+k)) ⟨#[124]⟩ _ (HC2.out _ hbel4)).mono ?_));rw [HMK.out];rintro e w' ⟨rfl,rfl⟩))
     go_ret2
     rw [HRES.out]
     exact⟨⟨.slice (some ⟨g',0,none⟩) (m+1) c',by rw [Int.natCast_add];rfl,hrow4⟩,hbel4⟩
   ·have HMK:Hid (mkB (T.drop (p+k)) ⟨#[124]⟩=true):=hid hmk
    have hlt:=mkB_len hmk
    rw [←HN.out]at hlt
    have HRUN2:=hid h2
    clear hmk h2
    have hcq:¬cap=p+k:=by omega
    have HC2:Hid (∀W,Below w.heap.size w W→HasT W (.slice (some (a.add ((p+k)*3))) (n-(p+k)) (cap-(p+k))) (T.drop (p+k))):=hid fun W h=>(HV.out W h).cutN hc hpk hcq
    go_wp2_with (first
     |(go_at_call 103;((with_reducible refine(iRg_any _ _ _ (T.drop p) _ (HC.out _ hbel) (by omega) (by omega) (HSD.out p)).mono ?_));rw [HE.out];rintro e w1 ⟨rfl,hb⟩;have hrow1:=RowR.below hrow hb;have hbel1:=below_step hbel hb;have hrow2:=RowR.alloc hrow1 (.cells #[.int .i64 x.lo,.int .i64 x.hi] 80);have hbel2:=below_al hbel1 (.cells #[.int .i64 x.lo,.int .i64 x.hi] 80);clear hb hrow hbel hrow1 hbel1)
     |(at_builtin;refine wpList_rng_append rfl _ _ rfl w.heap.size g m c R (by rfl) hrow2 x (w1.heap.size+1) (by rfl) (by simp) HM1.out hbel2.size (m+1) rfl ?_;intro g' c' w4 hrow4 hg4;have hbel4:=(below_al hbel2 (.cells #[.int .i64 x.lo,.int .i64 x.hi] 80)).grown hg4 (below_al hbel2 _).size (fun _ h=>by cases h;exact hgb);clear hrow2 hbel2 hg4)
     |(go_at_call 104;((with_reducible refine(iMk_any _ _ _ (T.drop (p+k)) ⟨#[124]⟩ _ (HC2.out _ hbel4)).mono ?_));rw [HMK.out];rintro e w' ⟨rfl,rfl⟩))
    go_roundw
    case rel=>exact⟨p+k+1,m+1,g',c',R++ [x],by omega,by omega,by go_num,rfl,HRUN2,hrow4,hbel4⟩
    case measure=>simp [intOf];omega
theorem RowR.shape {α:Type}{enc:α→List Value}{z E B:Nat}{w:World}{v:Value}{l:List α}(h:RowR enc z E B w v l):∃A cap,v=.slice A l.length cap:=by
 rcases RowR.form h with ⟨rfl,rfl⟩|⟨g,cap,rfl,_⟩
 ·exact⟨none,0,rfl⟩
 ·exact⟨_,cap,rfl⟩
end
section
open Go.RowKit NumP

section
variable {B b n cap i:Nat} {A:Option Addr} {T:List Tok} {w:World}
end
end
section
open Go.RowKit NumP

structure Bod (W0:World) (B b:Nat) (A:Option Addr) (n cap:Nat) (T:List Tok) (i:Nat) (bad:Bool) (g m c:Nat) (R:List Rg) (bx:Nat) (x:Rg) (w':World):Prop where
 P:Par B b A n cap T i bad w'
 G:W0.grownBy w' (some b)
 O:RowG W0.heap.size w' (.slice (some ⟨g,0,none⟩) m c) R
 X:RowG W0.heap.size w' (.slice (some ⟨bx,0,none⟩) 1 1) [x]
 ne:g<bx
 bl:b<W0.heap.size
section
variable {W0 w1 w2:World} {B b n cap i i' g m c bx:Nat} {A:Option Addr} {T:List Tok} {bad bad':Bool} {R:List Rg} {x:Rg}
end
end
section
open Go.RowKit NumP

theorem lex_texts {s:ByteArray}{T:List Tok}{e:Option Nat}(hL:Lx s.size s.data.toList T e)(hs:s.size≤1048576):∀x∈lexT T e,x.t.size≤1048576:=by
 have h:=hL.bd.2.1
 have h1:s.data.toList.length=s.size:=by simp
 intro x hx
 cases e with
 | some p=>simp [lexT]at hx
 | none=>have:=(h x hx).1;omega
end
section
open Go.RowKit NumP

def kB (k:Int):List Tok→Bool
 | []=>false
 | x::_=>decide (x.k=k)
section
variable {B b n cap i:Nat} {A:Option Addr} {T:List Tok} {bad:Bool} {w:World}
end
end
end Go.Proofs.YtecladbckadijaaGreatDoor
