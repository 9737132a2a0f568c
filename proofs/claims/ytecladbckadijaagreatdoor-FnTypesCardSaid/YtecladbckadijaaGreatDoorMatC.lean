/- MERGED for a claim. -/
import Derived.Test.YtecladbckadijaaGreatDoorPatAB
import Derived.WideLaws
set_option linter.unusedVariables false
set_option linter.unusedSimpArgs false
set_option maxRecDepth 100000
set_option maxHeartbeats 16000000
namespace Go.Proofs.YtecladbckadijaaGreatDoor
open Go.Lib (hid)
section
open Go.RowKit

noncomputable def validB (t:Ty):Bool:=
 if t.k=1 then areB t.rg
 else if t.k=2 then(areB t.rg&&loB t.rg)&&(emB t.pt || (patS t.pt.data.toList).isSome)
 else if t.k=3 then true
 else if t.k=4 then enumB t.nm
 else if t.k=5 then !emB t.ph&&textB t.ph
 else decide (t.k=6)
def restT (t:Ty):Ty:=
 if t.k=1 then { t with rg:=[] }
 else if t.k=2 then { t with rg:=[],pt:=⟨#[]⟩ }
 else if t.k=4 then { t with nm:=[] }
 else if t.k=5 then { t with ph:=⟨#[]⟩ }
 else t
noncomputable def isTyB (t:Ty):Bool:=bareB (restT t)&&validB t
theorem hasG_nil' (w:World):HasG w (.slice none 0 0) []:=⟨none,0,rfl,by simp,fun i hi=>absurd hi (by simp)⟩
theorem HasTy.rest {w:World}{v:TyV}{t:Ty}(h:HasTy w v t):HasTy w (restV v) (restT t):=by
 obtain⟨k,rg,nm,pt,ph⟩:=t
 obtain⟨k',vr,vn,pt',ph'⟩:=v
 obtain⟨rfl,hr,hn,rfl,rfl⟩:=h
 unfold restV restT
 dsimp only at hr hn ⊢
 split
 ·exact⟨rfl,hasG_nil' w,hn,rfl,rfl⟩
 split
 ·exact⟨rfl,hasG_nil' w,hn,rfl,rfl⟩
 split
 ·exact⟨rfl,hr,has_nil w,rfl,rfl⟩
 split
 ·exact⟨rfl,hr,hn,rfl,rfl⟩
 ·exact⟨rfl,hr,hn,rfl,rfl⟩
def TySz (t:Ty):Prop:=(∀s∈t.nm,s.size≤1048576)∧t.pt.size≤1048576∧t.ph.size≤1048576
/- what the tests of a type switch answer -/
theorem ta_int_int (v:Value)(w:World):(Instr.typeAssert (.iface 49 v) 20 49 true).run Tryz.prog w=.ok (.tuple #[v,.bool true]) w:=by kernel_rfl
theorem ta_int_text (v:Value)(w:World):(Instr.typeAssert (.iface 49 v) 20 52 true).run Tryz.prog w=.ok (.tuple #[.agg #[.slice none 0 0,.string ⟨#[]⟩],.bool false]) w:=by kernel_rfl
theorem ta_text_int (v:Value)(w:World):(Instr.typeAssert (.iface 52 v) 20 49 true).run Tryz.prog w=.ok (.tuple #[.agg #[.slice none 0 0],.bool false]) w:=by kernel_rfl
theorem ta_text_text (v:Value)(w:World):(Instr.typeAssert (.iface 52 v) 20 52 true).run Tryz.prog w=.ok (.tuple #[v,.bool true]) w:=by kernel_rfl
theorem ta_enum_int (v:Value)(w:World):(Instr.typeAssert (.iface 58 v) 20 49 true).run Tryz.prog w=.ok (.tuple #[.agg #[.slice none 0 0],.bool false]) w:=by kernel_rfl
theorem ta_enum_text (v:Value)(w:World):(Instr.typeAssert (.iface 58 v) 20 52 true).run Tryz.prog w=.ok (.tuple #[.agg #[.slice none 0 0,.string ⟨#[]⟩],.bool false]) w:=by kernel_rfl
theorem ta_enum_enum (v:Value)(w:World):(Instr.typeAssert (.iface 58 v) 20 58 true).run Tryz.prog w=.ok (.tuple #[v,.bool true]) w:=by kernel_rfl
theorem ta_enum_bool (v:Value)(w:World):(Instr.typeAssert (.iface 58 v) 20 55 true).run Tryz.prog w=.ok (.tuple #[.agg #[],.bool false]) w:=by kernel_rfl
theorem ta_ref_int (v:Value)(w:World):(Instr.typeAssert (.iface 61 v) 20 49 true).run Tryz.prog w=.ok (.tuple #[.agg #[.slice none 0 0],.bool false]) w:=by kernel_rfl
theorem ta_ref_text (v:Value)(w:World):(Instr.typeAssert (.iface 61 v) 20 52 true).run Tryz.prog w=.ok (.tuple #[.agg #[.slice none 0 0,.string ⟨#[]⟩],.bool false]) w:=by kernel_rfl
theorem ta_ref_enum (v:Value)(w:World):(Instr.typeAssert (.iface 61 v) 20 58 true).run Tryz.prog w=.ok (.tuple #[.agg #[.slice none 0 0],.bool false]) w:=by kernel_rfl
theorem ta_ref_ref (v:Value)(w:World):(Instr.typeAssert (.iface 61 v) 20 61 true).run Tryz.prog w=.ok (.tuple #[v,.bool true]) w:=by kernel_rfl
theorem ta_ref_bool (v:Value)(w:World):(Instr.typeAssert (.iface 61 v) 20 55 true).run Tryz.prog w=.ok (.tuple #[.agg #[],.bool false]) w:=by kernel_rfl
theorem ta_bool_int (v:Value)(w:World):(Instr.typeAssert (.iface 55 v) 20 49 true).run Tryz.prog w=.ok (.tuple #[.agg #[.slice none 0 0],.bool false]) w:=by kernel_rfl
theorem ta_bool_text (v:Value)(w:World):(Instr.typeAssert (.iface 55 v) 20 52 true).run Tryz.prog w=.ok (.tuple #[.agg #[.slice none 0 0,.string ⟨#[]⟩],.bool false]) w:=by kernel_rfl
theorem ta_bool_enum (v:Value)(w:World):(Instr.typeAssert (.iface 55 v) 20 58 true).run Tryz.prog w=.ok (.tuple #[.agg #[.slice none 0 0],.bool false]) w:=by kernel_rfl
theorem ta_bool_ref (v:Value)(w:World):(Instr.typeAssert (.iface 55 v) 20 61 true).run Tryz.prog w=.ok (.tuple #[.agg #[.string ⟨#[]⟩],.bool false]) w:=by kernel_rfl
theorem ta_bool_bool (v:Value)(w:World):(Instr.typeAssert (.iface 55 v) 20 55 true).run Tryz.prog w=.ok (.tuple #[v,.bool true]) w:=by kernel_rfl
theorem ta_bool_flag (v:Value)(w:World):(Instr.typeAssert (.iface 55 v) 20 63 true).run Tryz.prog w=.ok (.tuple #[.agg #[],.bool false]) w:=by kernel_rfl
theorem ta_flag_int (v:Value)(w:World):(Instr.typeAssert (.iface 63 v) 20 49 true).run Tryz.prog w=.ok (.tuple #[.agg #[.slice none 0 0],.bool false]) w:=by kernel_rfl
theorem ta_flag_text (v:Value)(w:World):(Instr.typeAssert (.iface 63 v) 20 52 true).run Tryz.prog w=.ok (.tuple #[.agg #[.slice none 0 0,.string ⟨#[]⟩],.bool false]) w:=by kernel_rfl
theorem ta_flag_enum (v:Value)(w:World):(Instr.typeAssert (.iface 63 v) 20 58 true).run Tryz.prog w=.ok (.tuple #[.agg #[.slice none 0 0],.bool false]) w:=by kernel_rfl
theorem ta_flag_ref (v:Value)(w:World):(Instr.typeAssert (.iface 63 v) 20 61 true).run Tryz.prog w=.ok (.tuple #[.agg #[.string ⟨#[]⟩],.bool false]) w:=by kernel_rfl
theorem ta_flag_bool (v:Value)(w:World):(Instr.typeAssert (.iface 63 v) 20 55 true).run Tryz.prog w=.ok (.tuple #[.agg #[],.bool false]) w:=by kernel_rfl
theorem ta_flag_flag (v:Value)(w:World):(Instr.typeAssert (.iface 63 v) 20 63 true).run Tryz.prog w=.ok (.tuple #[v,.bool true]) w:=by kernel_rfl
theorem ta_nil_int (w:World):(Instr.typeAssert .nilIface 20 49 true).run Tryz.prog w=.ok (.tuple #[.agg #[.slice none 0 0],.bool false]) w:=by kernel_rfl
theorem ta_nil_text (w:World):(Instr.typeAssert .nilIface 20 52 true).run Tryz.prog w=.ok (.tuple #[.agg #[.slice none 0 0,.string ⟨#[]⟩],.bool false]) w:=by kernel_rfl
theorem ta_nil_enum (w:World):(Instr.typeAssert .nilIface 20 58 true).run Tryz.prog w=.ok (.tuple #[.agg #[.slice none 0 0],.bool false]) w:=by kernel_rfl
theorem ta_nil_ref (w:World):(Instr.typeAssert .nilIface 20 61 true).run Tryz.prog w=.ok (.tuple #[.agg #[.string ⟨#[]⟩],.bool false]) w:=by kernel_rfl
theorem ta_nil_bool (w:World):(Instr.typeAssert .nilIface 20 55 true).run Tryz.prog w=.ok (.tuple #[.agg #[],.bool false]) w:=by kernel_rfl
theorem ta_nil_flag (w:World):(Instr.typeAssert .nilIface 20 63 true).run Tryz.prog w=.ok (.tuple #[.agg #[],.bool false]) w:=by kernel_rfl
theorem valid_1 (A:Option Addr)(n c:Nat)(rg:List Rg)(w:World)(h:HasG w (.slice A n c) rg):
  Calls Tryz.prog 51 #[.iface 49 (.agg #[.slice A n c])] w fun e w'=>e=.returned (.bool (areB rg))∧Below w.heap.size w w':=by
 have Tint:=ta_int_int
 have hb0:=below_al (Below.refl w.heap.size w) (.cells #[.slice A n c] 49)
 have HC:=hid (iAre_any _ rg _ (h.below hb0))
 generalize areB rg=b at HC ⊢
 clear h
 go_enter Tryz.func51,Tryz.ntmps51
 go_wp2_with (go_at_call 40;refine(HC.out).mono ?_;rintro e w' ⟨rfl,hb⟩)
 go_ret
 exact⟨rfl,below_step hb0 hb⟩
theorem valid_2 (A:Option Addr)(n c:Nat)(rg:List Rg)(pt:ByteArray)(hs:pt.size≤1048576)(w:World)(h:HasG w (.slice A n c) rg):
  Calls Tryz.prog 51 #[.iface 52 (.agg #[.slice A n c,.string pt])] w fun e w'=>e=.returned (.bool ((areB rg&&loB rg)&&(emB pt || (patS pt.data.toList).isSome)))∧Below w.heap.size w w':=by
 have Tint:=ta_text_int
 have Ttext:=ta_text_text
 have hb0:=below_al (Below.refl w.heap.size w) (.cells #[.slice A n c,.string pt] 52)
 have HC:=hid (areLen_any _ rg _ (h.below hb0))
 have HP:=hid (fun w=>iIs_any pt (by unfold maxLen;omega) w)
 have HK:Hid (∀W,Below (w.alloc (.cells #[.slice A n c,.string pt] 52)).heap.size (w.alloc (.cells #[.slice A n c,.string pt] 52)) W→W.cell? ⟨w.heap.size,1,none⟩=some (.string pt)):=hid fun W hb=>by
  rw [hb.cell (by simp)]
  rw [cell_of_row _ _ 1 _ _ _ (heap_alloc_new w _)];rfl
 generalize (areB rg&&loB rg)=b at HC ⊢
 generalize (patS pt.data.toList).isSome=q at HP ⊢
 clear h
 cases b with
 | false =>
  go_enter Tryz.func51,Tryz.ntmps51
  go_wp2_with (first|(go_at_call 90;refine(HC.out).mono ?_;rintro e w' ⟨rfl,hb⟩))
  go_ret
  exact⟨rfl,below_step hb0 hb⟩
 | true =>
  rcases em_cases pt with rfl|⟨h1,h2,h3,h4⟩
  ·go_enter Tryz.func51,Tryz.ntmps51
   go_wp2_with (first|(go_at_call 90;refine(HC.out).mono ?_;rintro e w' ⟨rfl,hb⟩;have c1:=HK.out _ hb))
   go_ret
   exact⟨rfl,below_step hb0 hb⟩
  ·go_enter Tryz.func51,Tryz.ntmps51
   go_wp2_with (first|(go_at_call 90;refine(HC.out).mono ?_;rintro e w' ⟨rfl,hb⟩;have c1:=HK.out _ hb)|(go_at_call 91;refine(HP.out _).mono ?_;rintro e w2 ⟨rfl,hb2⟩))
   go_ret
   exact⟨ret_bool (by rw [h4];rfl),below_step (below_step hb0 hb) hb2⟩
theorem valid_3 (w:World):
  Calls Tryz.prog 51 #[.iface 55 (.agg #[])] w fun e w'=>e=.returned (.bool true)∧Below w.heap.size w w':=by
 have Tint:=ta_bool_int
 have Ttext:=ta_bool_text
 have Tenum:=ta_bool_enum
 have Tref:=ta_bool_ref
 have Tbool:=ta_bool_bool
 have Tflag:=ta_bool_flag
 go_enter Tryz.func51,Tryz.ntmps51
 go_wp2
 go_ret
 exact⟨rfl,Below.refl _ _⟩
theorem valid_4 (A:Option Addr)(n c:Nat)(nm:List ByteArray)(w:World)(h:Has w (.slice A n c) nm)(hc:CapN (.slice A n c))(hs:∀s∈nm,s.size≤1048576):
  Calls Tryz.prog 51 #[.iface 58 (.agg #[.slice A n c])] w fun e w'=>e=.returned (.bool (enumB nm))∧Below w.heap.size w w':=by
 have Tint:=ta_enum_int
 have Ttext:=ta_enum_text
 have Tenum:=ta_enum_enum
 have hb0:=below_al (Below.refl w.heap.size w) (.cells #[.slice A n c] 58)
 have HC:=hid (enum_any _ nm _ (h.below hb0) hc hs)
 generalize enumB nm=b at HC ⊢
 clear h hc hs
 go_enter Tryz.func51,Tryz.ntmps51
 go_wp2_with (go_at_call 92;refine(HC.out).mono ?_;rintro e w' ⟨rfl,rfl⟩)
 go_ret
 exact⟨rfl,hb0⟩
theorem valid_5 (ph:ByteArray)(hs:ph.size≤1048576)(w:World):
  Calls Tryz.prog 51 #[.iface 61 (.agg #[.string ph])] w fun e w'=>e=.returned (.bool (!emB ph&&textB ph))∧Below w.heap.size w w':=by
 have Tint:=ta_ref_int
 have Ttext:=ta_ref_text
 have Tenum:=ta_ref_enum
 have Tref:=ta_ref_ref
 have hb0:=below_al (Below.refl w.heap.size w) (.cells #[.string ph] 61)
 have HC:=hid (fun w=>filled_any ph hs w)
 generalize (!emB ph&&textB ph)=b at HC ⊢
 clear hs
 go_enter Tryz.func51,Tryz.ntmps51
 go_wp2_with (go_at_call 24;refine(HC.out _).mono ?_;rintro e w' ⟨rfl,rfl⟩)
 go_ret
 exact⟨rfl,hb0⟩
theorem valid_6 (w:World):
  Calls Tryz.prog 51 #[.iface 63 (.agg #[])] w fun e w'=>e=.returned (.bool true)∧Below w.heap.size w w':=by
 have Tint:=ta_flag_int
 have Ttext:=ta_flag_text
 have Tenum:=ta_flag_enum
 have Tref:=ta_flag_ref
 have Tbool:=ta_flag_bool
 have Tflag:=ta_flag_flag
 go_enter Tryz.func51,Tryz.ntmps51
 go_wp2
 go_ret
 exact⟨rfl,Below.refl _ _⟩
theorem valid_other (w:World):
  Calls Tryz.prog 51 #[.nilIface] w fun e w'=>e=.returned (.bool false)∧Below w.heap.size w w':=by
 have Tint:=ta_nil_int
 have Ttext:=ta_nil_text
 have Tenum:=ta_nil_enum
 have Tref:=ta_nil_ref
 have Tbool:=ta_nil_bool
 have Tflag:=ta_nil_flag
 go_enter Tryz.func51,Tryz.ntmps51
 go_wp2
 go_ret
 exact⟨rfl,Below.refl _ _⟩
end
section
open Go.RowKit

def InS (l:List Rg)(n:Int):Prop:=l=[]∨Mem l n
noncomputable def inB (l:List Rg)(n:Int):Bool:=@decide (InS l n) (Classical.propDecidable _)
theorem inB_yes {l:List Rg}{n:Int}(h:InS l n):inB l n=true:=@decide_eq_true _ (Classical.propDecidable _) h
theorem inB_no {l:List Rg}{n:Int}(h:¬InS l n):inB l n=false:=@decide_eq_false _ (Classical.propDecidable _) h
theorem inB_at {l:List Rg}{n:Int}{k:Nat}(hk:k<l.length)(h:l[k].In n):inB l n=true:=inB_yes (.inr ⟨_,List.getElem_mem hk,h⟩)
theorem notMem_next {l:List Rg}{n:Int}{k:Nat}(hk:k<l.length)(h:¬Mem (l.take k) n)(hn:¬l[k].In n):¬Mem (l.take (k+1)) n:=by
 rw [List.take_succ_eq_append_getElem hk,mem_append,mem_one]
 exact fun h'=>h'.elim h hn
theorem inB_end {l:List Rg}{n:Int}{m:Nat}(hm:m=l.length)(h:¬Mem (l.take m) n):inB l n=decide ((m:Int)=0):=by
 rw [List.take_of_length_le (by omega)]at h
 by_cases h0:m=0
 ·rw [inB_yes (.inl (List.length_eq_zero_iff.1 (by omega)))];simp [h0]
 ·rw [inB_no (fun h'=>h'.elim (fun e=>h0 (by rw [hm,e];rfl)) h)];simp [h0]
theorem sInR_any (v:Value)(l:List Rg)(q:Int)(w:World)(hv:HasG w v l):
  Calls Tryz.prog 27 #[v,.int .i64 q] w fun e w'=>e=.returned (.bool (inB l q))∧Below w.heap.size w w':=by
 obtain⟨A,cap,rfl,hn',hc⟩:=hv
 obtain⟨n,hnn⟩:∃n,n=l.length:=⟨_,rfl⟩
 have HN:Hid (n=l.length):=hid hnn
 rw [←hnn]at hn' ⊢
 clear hnn
 obtain⟨r,hr⟩:∃r,r=inB l q:=⟨_,rfl⟩
 have HR:Hid (r=inB l q):=hid hr
 rw [←hr]
 clear hr
 go_enter Tryz.func27,Tryz.ntmps27
 go_wp2
 go_loopw [5] (fun i wr=>∃k:Nat,k≤n∧i=.int .i64 k∧Hid (¬Mem (l.take k) q)∧Below w.heap.size w wr) (fun i _=>n-(intOf i).toNat)
 case atStart=>exact⟨0,Nat.zero_le _,rfl,hid (mem_nil q),Below.refl _ _⟩
 case round=>
  obtain⟨k,hk,rfl,HP,hbel⟩:=hrel
  by_cases hlt:k<n
  ·have hlk:k<l.length:=by rw [←HN.out];exact hlt
   obtain⟨a,rfl,hab,hcell0⟩:=HasG.gk hc k hlk
   obtain⟨x,hx⟩:∃x,x=l[k]:=⟨_,rfl⟩
   rw [←hx]at hcell0
   obtain⟨c0,c1⟩:=hcell0.below hbel hab
   have HX:=hid hx
   clear hx hcell0 hc
   by_cases hi:x.lo≤q∧q≤x.hi
   ·obtain⟨i1,i2⟩:=hi
    have HB:=hid (inB_at hlk (n:=q) (by rw [←HX.out];exact⟨i1,i2⟩))
    go_wp2
    go_quiet ((go_at_call 56;exact Calls.quiet_of_same ((sIn_yes _ _ _ _ i1 i2).mono fun _ _ ⟨h1,h2⟩=>⟨h1,h2.symm⟩)))
    go_wp2
    go_ret
    exact⟨ret_bool (by rw [HR.out,HB.out]),below_drewN hbel _⟩
   ·have HI:Hid (q<x.lo∨x.hi<q):=hid (by omega)
    have HB:=hid (notMem_next hlk HP.out (n:=q) (by rw [←HX.out];exact hi))
    clear hi
    go_wp2
    go_quiet ((go_at_call 56;exact Calls.quiet_of_same ((sIn_no _ _ _ _ HI.out).mono fun _ _ ⟨h1,h2⟩=>⟨h1,h2.symm⟩)))
    go_wp2
    go_roundw
    case rel=>exact⟨k+1,by omega,by go_num,HB,below_drewN hbel _⟩
    case measure=>simp [intOf];omega
  ·have e:k=n:=by omega
   subst e
   go_wp2
   go_ret
   exact⟨ret_bool (by rw [HR.out,inB_end HN.out HP.out];rfl),hbel⟩
theorem iInR_any (v:Value)(l:List Rg)(q:Int)(w:World)(hv:HasG w v l):
  Calls Tryz.prog 15 #[v,.int .i64 q] w fun e w'=>e=.returned (.bool (inB l q))∧Below w.heap.size w w':=by
 obtain⟨A,cap,rfl,hn',hc⟩:=hv
 obtain⟨n,hnn⟩:∃n,n=l.length:=⟨_,rfl⟩
 have HN:Hid (n=l.length):=hid hnn
 rw [←hnn]at hn' ⊢
 clear hnn
 obtain⟨r,hr⟩:∃r,r=inB l q:=⟨_,rfl⟩
 have HR:Hid (r=inB l q):=hid hr
 rw [←hr]
 clear hr
 go_enter Tryz.func15,Tryz.ntmps15
 go_wp2
 go_loopw [9] (fun i wr=>∃k:Nat,k≤n∧i=.int .i64 k∧Hid (¬Mem (l.take k) q)∧Below w.heap.size w wr) (fun i _=>n-(intOf i).toNat)
 case atStart=>exact⟨0,Nat.zero_le _,rfl,hid (mem_nil q),Below.refl _ _⟩
 case round=>
  obtain⟨k,hk,rfl,HP,hbel⟩:=hrel
  by_cases hlt:k<n
  ·have hlk:k<l.length:=by rw [←HN.out];exact hlt
   obtain⟨a,rfl,hab,hcell0⟩:=HasG.gk hc k hlk
   obtain⟨x,hx⟩:∃x,x=l[k]:=⟨_,rfl⟩
   rw [←hx]at hcell0
   obtain⟨c0,c1⟩:=hcell0.below hbel hab
   have HX:=hid hx
   clear hx hcell0 hc
   by_cases i1:x.lo≤q
   ·by_cases i2:q≤x.hi
    ·have HB:=hid (inB_at hlk (n:=q) (by rw [←HX.out];exact⟨i1,i2⟩))
     go_wp2
     go_ret
     exact⟨ret_bool (by rw [HR.out,HB.out]),below_al hbel _⟩
    ·have HB:=hid (notMem_next hlk HP.out (n:=q) (by rw [←HX.out];exact fun h=>i2 h.2))
     go_wp2
     go_roundw
     case rel=>exact⟨k+1,by omega,by go_num,HB,below_al hbel _⟩
     case measure=>simp [intOf];omega
   ·have HB:=hid (notMem_next hlk HP.out (n:=q) (by rw [←HX.out];exact fun h=>i1 h.1))
    go_wp2
    go_roundw
    case rel=>exact⟨k+1,by omega,by go_num,HB,below_al hbel _⟩
    case measure=>simp [intOf];omega
  ·have e:k=n:=by omega
   subst e
   go_wp2
   go_ret
   exact⟨ret_bool (by rw [HR.out,inB_end HN.out HP.out];rfl),hbel⟩
end
section
open Go.RowKit NumP

theorem sMin_any (a b:Int)(w:World):
  Calls Tryz.prog 108 #[.int .i64 a,.int .i64 b] w fun e w'=>e=.returned (.int .i64 (min a b))∧w=w':=by
 by_cases h:b<a
 all_goals
  go_enter Tryz.func108,Tryz.ntmps108
  go_wp2
  go_ret
  exact⟨ret_int (by omega),rfl⟩
theorem iMin_any (a b:Int)(w:World):
  Calls Tryz.prog 82 #[.int .i64 a,.int .i64 b] w fun e w'=>e=.returned (.int .i64 (min a b))∧w=w':=by
 by_cases h:a<b
 all_goals
  go_enter Tryz.func82,Tryz.ntmps82
  go_wp2
  go_ret
  exact⟨ret_int (by omega),rfl⟩
theorem sMax_any (a b:Int)(w:World):
  Calls Tryz.prog 109 #[.int .i64 a,.int .i64 b] w fun e w'=>e=.returned (.int .i64 (max a b))∧w=w':=by
 by_cases h:a<b
 all_goals
  go_enter Tryz.func109,Tryz.ntmps109
  go_wp2
  go_ret
  exact⟨ret_int (by omega),rfl⟩
theorem iMax_any (a b:Int)(w:World):
  Calls Tryz.prog 81 #[.int .i64 a,.int .i64 b] w fun e w'=>e=.returned (.int .i64 (max a b))∧w=w':=by
 by_cases h:b<a
 all_goals
  go_enter Tryz.func81,Tryz.ntmps81
  go_wp2
  go_ret
  exact⟨ret_int (by omega),rfl⟩
theorem u64_of_neg {n:Int}(h:n<0)(hl:-9223372036854775808≤n):IntKind.u64.wrap (-(IntKind.u64.wrap n))=n.natAbs:=by
 simp [IntKind.wrap,IntKind.signed,IntKind.bits];omega
theorem iMag_any (n:Int)(hl:-9223372036854775808≤n)(hh:n≤9223372036854775807)(w:World):
  Calls Tryz.prog 85 #[.int .i64 n] w fun e w'=>e=.returned (.int .u64 n.natAbs)∧w=w':=by
 by_cases h:n<0
 all_goals
  go_enter Tryz.func85,Tryz.ntmps85
  go_wp2
  go_ret
  first|exact⟨ret_int (u64_of_neg h hl),rfl⟩|exact⟨ret_int (u64_of_pos (by omega) hh),rfl⟩|exact⟨ret_int (by omega),rfl⟩
theorem iCount_any (m:Nat)(hm:m<18446744073709551616)(w:World):
  Calls Tryz.prog 87 #[.int .u64 m] w fun e w'=>e=.returned (.int .i64 (ndig m))∧w=w':=by
 go_enter Tryz.func87,Tryz.ntmps87
 go_wp2
 go_loop [0,3] (fun s c=>∃k q:Nat,q<18446744073709551616∧k+ndig q=ndig m+1∧1≤k∧k≤21∧s=.int .u64 q∧c=.int .i64 k) (fun s _=>(intOf s).toNat)
 case atStart=>exact⟨1,m,hm,by omega,by omega,by omega,rfl,rfl⟩
 case round=>
  obtain⟨k,q,hq,hk,hk1,hk2,rfl,rfl⟩:=hrel
  have hb:=ndig_le20 hm
  have hp:=ndig_pos q
  by_cases h:10≤q
  ·have HS:Hid (ndig q=ndig (q / 10)+1):=hid (ndig_big h)
   have hp':=ndig_pos (q / 10)
   have hk':Hid (k+ndig q=ndig m+1):=hid hk
   have hk3:k≤19:=by rw [HS.out]at hk;omega
   clear hk
   go_wp2
   go_round
   case rel=>exact⟨k+1,q / 10,by omega,by have:=hk'.out;rw [HS.out]at this;omega,by omega,by omega,by go_num,by go_num⟩
   case measure=>simp [intOf];omega
  ·have HS:Hid (ndig q=1):=hid (ndig_small (by omega))
   have hk':Hid (k+ndig q=ndig m+1):=hid hk
   clear hk
   go_wp2
   go_ret
   exact⟨ret_int (by have:=hk'.out;rw [HS.out]at this;omega),rfl⟩
end
section
open Go.RowKit NumP

theorem drop_set_at {l:List UInt8}{j:Nat}{x:UInt8}(h:j<l.length):(l.set j x).drop j=x::l.drop (j+1):=by
 rw [List.drop_eq_getElem_cons (by simpa using h),List.getElem_set_self,List.drop_set]
 simp
theorem fill_step {c k q m:Nat}{l:List UInt8}(hl:l.length=c)(hk:k<c)(h:pad (c-k) q++l.drop (c-k)=dec m):
  (l.set (c-1-k) (UInt8.ofNat (48+q % 10))).length=c∧pad (c-(k+1)) (q / 10)++(l.set (c-1-k) (UInt8.ofNat (48+q % 10))).drop (c-(k+1))=dec m:=by
 refine⟨by simpa using hl,?_⟩
 rw [←h]
 have e1:c-k=(c-(k+1))+1:=by omega
 have e2:c-1-k=c-(k+1):=by omega
 rw [e1,pad,e2,drop_set_at (by omega),List.append_assoc];rfl
theorem fill_done {c m q:Nat}{l:List UInt8}(h:pad (c-c) q++l.drop (c-c)=dec m):l=dec m:=by
 simpa [pad]using h
theorem iDigits_any (m:Nat)(hm:m<18446744073709551616)(w:World):
  Calls Tryz.prog 86 #[.int .u64 m,.int .i64 (ndig m)] w fun e w'=>e=.returned (.string ⟨(dec m).toArray⟩)∧Below w.heap.size w w':=by
 obtain⟨i0,hi,hz0,hz1,hz2⟩:=info_parts infoU8
 obtain⟨c,hc⟩:∃c,c=ndig m:=⟨_,rfl⟩
 have hb:=ndig_le20 hm
 have hp:=ndig_pos m
 have hpad:=pad_ndig m
 have hlen:=dec_length m
 rw [←hc]at hb hp hpad hlen ⊢
 have HP:Hid (pad c m=dec m):=hid hpad
 have HL:Hid ((dec m).length=c):=hid hlen
 have HC:Hid (c=ndig m):=hid hc
 clear hpad hlen hc
 go_enter Tryz.func86,Tryz.ntmps86
 have hb2:i0.bytes*c≤281474976710656:=by rw [hz2];omega
 have hb3:c≤maxLen:=by unfold maxLen;omega
 have HZ:Hid (i0.bytes=1):=hid hz2
 clear hz2
 go_wp2_with (at_make;go_loud (refine wpList_make_full _ rfl _ _ 22 rfl w.heap.size 5 i0 (.int .u8 0) 1 Tryz.underlying22 hi hz0 hz1 _ _ _ _ c rfl rfl rfl rfl hb2 hb3 (Nat.le_refl _) ?_);intro w1 hown1 hg1)
 have hown0:w1.ownsRow w.heap.size 5 1 (.slice (some ⟨w.heap.size,0,none⟩) c c) c ((List.replicate c (0:UInt8)).map u8v):=by
  have:=hown1
  rw [show(Value.int .u8 0).cells=#[.int .u8 0]from rfl,toList_madeCells_one,Nat.mul_one]at this
  simpa [u8v]using this
 have hbel1:Below w.heap.size w w1:=(Below.refl _ _).grown hg1 (Nat.le_refl _) (by simp)
 clear hown1 hg1
 go_loopw [0,10] (fun s i wr=>∃(k q:Nat) (l:List UInt8),q<18446744073709551616∧k≤c∧s=.int .u64 q∧i=.int .i64 k∧l.length=c∧pad (c-k) q++l.drop (c-k)=dec m∧
   wr.ownsRow w.heap.size 5 1 (.slice (some ⟨w.heap.size,0,none⟩) c c) c (l.map u8v)∧Below w.heap.size w wr) (fun _ i _=>c-(intOf i).toNat)
 case atStart=>exact⟨0,m,List.replicate c 0,hm,Nat.zero_le _,rfl,rfl,by simp,by rw [Nat.sub_zero,HP.out];simp,hown0,hbel1⟩
 case round=>
  obtain⟨k,q,l,hq,hk,rfl,rfl,hl,hpd,hown,hbel⟩:=hrel
  have HLL:Hid (l.length=c):=hid hl
  have HPD:Hid (pad (c-k) q++l.drop (c-k)=dec m):=hid hpd
  clear hl hpd
  by_cases hlt:k<c
  ·have hfr:=hown.frozenAt (c-1-k)
   have hcell:wr.cell? ⟨w.heap.size,c-1-k,none⟩=some (u8v (l[c-1-k]'(by have:=HLL.out;omega))):=by
    rw [hown.cellAt _ (by omega),List.getElem?_map,List.getElem?_eq_getElem (by have:=HLL.out;omega)];rfl
   have hst:=hown.stored (c-1-k) (u8v (UInt8.ofNat (48+q % 10)))
   have HST:Hid _:=hid hst
   clear hst
   go_wp2
   go_roundw
   case rel=>
    have hs:=HST.out
    have hd:=digit_byte q
    have hf:=fill_step HLL.out hlt HPD.out
    refine⟨k+1,q / 10,l.set (c-1-k) (UInt8.ofNat (48+q % 10)),by omega,by omega,by go_num,by go_num,hf.1,hf.2,?_,?_⟩
    ·rw [List.map_set];rw [hd]at hs;rw [hd];exact hs.1
    ·exact hbel.setCell (by simp) _
   case measure=>simp [intOf];omega
  ·obtain rfl:k=c:=by omega
   have hcv:=run_convert_bytes_back (P:=Tryz.prog) wr 22 9 5 ⟨w.heap.size,0,none⟩ k l Tryz.underlying22 Tryz.underlying5 Tryz.underlying9 (fun j hj=>hown.cells (g:=w.heap.size) rfl j _ (by rw [List.getElem?_map,List.getElem?_eq_getElem hj];rfl))
   rw [HLL.out]at hcv
   go_wp2
   go_ret
   exact⟨ret_str (by rw [fill_done HPD.out]),hbel⟩
theorem iFmt_any (n:Int)(hl:-9223372036854775808≤n)(hh:n≤9223372036854775807)(w:World):
  Calls Tryz.prog 43 #[.int .i64 n] w fun e w'=>e=.returned (.string (fmtS n))∧Below w.heap.size w w':=by
 have hsz:(dec n.natAbs).length≤20:=by rw [dec_length];exact ndig_le20 (by omega)
 by_cases h:n<0
 ·have e1:=fmtS_neg h
  have HE:Hid (fmtS n=_):=hid e1
  clear e1
  go_enter Tryz.func43,Tryz.ntmps43
  go_wp2_with (first
   |(go_at_call 85;refine(iMag_any n hl hh _).mono ?_;rintro e w' ⟨rfl,rfl⟩)
   |(go_at_call 87;refine(iCount_any n.natAbs (by omega) _).mono ?_;rintro e w' ⟨rfl,rfl⟩)
   |(go_at_call 86;refine(iDigits_any n.natAbs (by omega) _).mono ?_;rintro e w' ⟨rfl,hb⟩))
  go_ret
  exact⟨ret_str (by rw [HE.out];exact ByteArray.mk_append_mk [45] _),hb⟩
 ·have e1:=fmtS_pos (n:=n) (by omega)
  have HE:Hid (fmtS n=_):=hid e1
  clear e1
  go_enter Tryz.func43,Tryz.ntmps43
  go_wp2_with (first
   |(go_at_call 85;refine(iMag_any n hl hh _).mono ?_;rintro e w' ⟨rfl,rfl⟩)
   |(go_at_call 87;refine(iCount_any n.natAbs (by omega) _).mono ?_;rintro e w' ⟨rfl,rfl⟩)
   |(go_at_call 86;refine(iDigits_any n.natAbs (by omega) _).mono ?_;rintro e w' ⟨rfl,hb⟩))
  go_ret
  exact⟨ret_str (by rw [HE.out]),hb⟩
end
section
open Go.RowKit NumP

theorem sFmt_pos (n:Int)(hl:0<n)(hh:n≤9223372036854775807)(w:World):
  Calls Tryz.prog 26 #[.int .i64 n] w fun e w'=>e=.returned (.string (fmtS n))∧Below w.heap.size w w':=by
 obtain⟨m,rfl⟩:∃m:Nat,n=m:=⟨n.toNat,by omega⟩
 have HE:Hid (fmtS m=_):=hid (fmtS_pos (n:=m) (by omega))
 go_enter Tryz.func26,Tryz.ntmps26
 go_wp2
 go_loopw [3,4] (fun s x wr=>∃(q:Nat) (l:List UInt8),q≤9223372036854775807∧l.length≤20∧x=.int .i64 q∧s=.string ⟨l.toArray⟩∧SF m q l∧Below w.heap.size w wr) (fun _ x _=>(intOf x).toNat)
 case atStart=>exact⟨m,[],by omega,by simp,rfl,rfl,⟨fun h=>by omega,fun _=>by simp⟩,Below.refl _ _⟩
 case round=>
  obtain⟨q,l,hq,hll,rfl,rfl,hsf,hbel⟩:=hrel
  by_cases h0:0<q
  ·obtain⟨b,hb⟩:∃b,b=UInt8.ofNat (48+q % 10):=⟨_,rfl⟩
   have hcv:=conv_one wr b
   have hs:=SF_step (by omega) h0 hsf
   rw [hb,digit_byte,←hb]at hcv
   rw [←hb]at hs
   clear hb
   go_wp2
   go_roundw
   case rel=>
    exact⟨q / 10,_,by omega,hs.2,by go_num,val_str (str_cons _ _),hs.1,hbel.alloc hbel.size _⟩
   case measure=>simp [intOf];omega
  ·go_wp2
   go_ret
   exact⟨ret_str (by rw [HE.out,hsf.1 (by omega)];rfl),hbel⟩
theorem tdiv_neg (q:Nat):(-(q:Int)).tdiv 10=-((q / 10:Nat):Int):=by rw [Int.neg_tdiv];rfl
theorem tmod_neg (q:Nat):(-(q:Int)).tmod 10=-((q % 10:Nat):Int):=by rw [Int.neg_tmod];rfl
theorem sFmt_neg (n:Int)(hl:-9223372036854775808≤n)(hh:n<0)(w:World):
  Calls Tryz.prog 26 #[.int .i64 n] w fun e w'=>e=.returned (.string (fmtS n))∧Below w.heap.size w w':=by
 obtain⟨m,rfl⟩:∃m:Nat,n=-(m:Int):=⟨n.natAbs,by omega⟩
 have HE:Hid (fmtS (-(m:Int))=_):=hid (fmtS_neg (n:=-(m:Int)) (by omega))
 go_enter Tryz.func26,Tryz.ntmps26
 go_wp2
 go_loopw [3,4] (fun s x wr=>∃(q:Nat) (l:List UInt8),q≤9223372036854775808∧l.length≤20∧x=.int .i64 (-(q:Int))∧s=.string ⟨l.toArray⟩∧SF m q l∧Below w.heap.size w wr) (fun _ x _=>(intOf x).natAbs)
 case atStart=>exact⟨m,[],by omega,by simp,rfl,rfl,⟨fun h=>by omega,fun _=>by simp⟩,Below.refl _ _⟩
 case round=>
  obtain⟨q,l,hq,hll,rfl,rfl,hsf,hbel⟩:=hrel
  by_cases h0:0<q
  ·obtain⟨b,hb⟩:∃b,b=UInt8.ofNat (48+q % 10):=⟨_,rfl⟩
   have hcv:=conv_one wr b
   have hs:=SF_step (by omega) h0 hsf
   rw [hb,digit_byte,←hb]at hcv
   rw [←hb]at hs
   clear hb
   have ht1:=tdiv_neg q
   have ht2:=tmod_neg q
   by_cases h1:0<q % 10
   ·go_wp2
    go_roundw
    case rel=>
     exact⟨q / 10,_,by omega,hs.2,by go_num,val_str (str_cons _ _),hs.1,hbel.alloc hbel.size _⟩
    case measure=>simp [intOf];omega
   ·rw [show(48+(q:Int) % 10)=48+-((q:Int) % 10)by omega]at hcv
    go_wp2
    go_roundw
    case rel=>
     exact⟨q / 10,_,by omega,hs.2,by go_num,val_str (str_cons _ _),hs.1,hbel.alloc hbel.size _⟩
    case measure=>simp [intOf];omega
  ·have hs:Hid (l=dec m):=hid (hsf.1 (by omega))
   go_wp2
   go_ret
   exact⟨ret_str (by rw [HE.out,hs.out,Int.natAbs_neg,Int.natAbs_natCast];exact ByteArray.mk_append_mk [45] _),hbel⟩
theorem sFmt_any (n:Int)(hl:-9223372036854775808≤n)(hh:n≤9223372036854775807)(w:World):
  Calls Tryz.prog 26 #[.int .i64 n] w fun e w'=>e=.returned (.string (fmtS n))∧Below w.heap.size w w':=by
 by_cases h:n<0
 ·exact sFmt_neg n hl h w
 ·by_cases h0:0<n
  ·exact sFmt_pos n h0 hh w
  ·obtain rfl:n=0:=by omega
   go_enter Tryz.func26,Tryz.ntmps26
   go_wp2
   go_ret
   exact⟨ret_str (by rw [fmtS_pos (by omega),show(0:Int).natAbs=0 from rfl,dec_small (by omega)];rfl),Below.refl _ _⟩
end
section
open Go.RowKit NumP

def tupI:Option Int→Value
 | none=>.tuple #[.int .i64 0,.bool false]
 | some n=>.tuple #[.int .i64 n,.bool true]
def tupN (o:Option Nat):Value:=tupI (o.map Int.ofNat)
theorem tupN_none {l:List UInt8}(h:rdL l=none):tupN (rdL l)=.tuple #[.int .i64 0,.bool false]:=by rw [h];rfl
theorem tupN_some {l:List UInt8}{m:Nat}(h:rdL l=some m):tupN (rdL l)=.tuple #[.int .i64 m,.bool true]:=by rw [h];rfl
theorem rdGo_dig {n:Nat}{c:UInt8}{r:List UInt8}(h1:48≤c.toNat)(h2:c.toNat≤57)(h3:n*10+(c.toNat-48)≤1000000000):rdGo n (c::r)=rdGo (n*10+(c.toNat-48)) r:=by
 rw [rdGo,if_pos ⟨h1,h2⟩,if_pos h3]
theorem rdGo_big {n:Nat}{c:UInt8}{r:List UInt8}(h3:1000000000<n*10+(c.toNat-48)):rdGo n (c::r)=none:=by
 rw [rdGo];split
 ·rw [if_neg (by omega)]
 ·rfl
theorem rdGo_bad {n:Nat}{c:UInt8}{r:List UInt8}(h:c.toNat<48∨57<c.toNat):rdGo n (c::r)=none:=by
 rw [rdGo,if_neg (by omega)]
theorem rdL_of {l:List UInt8}{o:Option Nat}(h:l≠[])(e:rdGo 0 l=o):rdL l=o:=by unfold rdL;rw [if_neg h,e]
theorem end_none {l:List UInt8}(h:l≠[])(e:rdGo 0 l=none):Value.tuple #[.int .i64 0,.bool false]=tupN (rdL l):=by rw [rdL_of h e];rfl
theorem end_some {l:List UInt8}{m:Nat}(h:l≠[])(e:rdGo 0 l=some m):Value.tuple #[.int .i64 m,.bool true]=tupN (rdL l):=by rw [rdL_of h e];rfl
theorem iDig_any (s:ByteArray)(hs:s.size≤maxLen)(w:World):
  Calls Tryz.prog 83 #[.string s] w fun e w'=>e=.returned (tupN (rdL s.data.toList))∧w=w':=by
 unfold maxLen at hs
 by_cases h0:s.size=0
 ·have he:s=⟨#[]⟩:=by apply ByteArray.ext;exact Array.eq_empty_of_size_eq_zero h0
  subst he
  go_enter Tryz.func83,Tryz.ntmps83
  go_wp2
  go_ret2
  exact⟨ret_val rfl,rfl⟩
 ·have hne:s.toList.isEmpty=false:=not_empty (by omega)
  have HN:Hid (s.data.toList≠[]):=hid (data_ne (by omega))
  go_enter Tryz.func83,Tryz.ntmps83
  go_wp2
  go_loop [4,10] (fun x i=>∃k n:Nat,k≤s.size∧n≤1000000000∧x=.int .i64 n∧i=.int .i64 k∧rdGo 0 s.data.toList=rdGo n (s.data.toList.drop k)) (fun _ i=>s.size-(intOf i).toNat)
  case atStart=>exact⟨0,0,by omega,by omega,rfl,rfl,rfl⟩
  case round=>
   obtain⟨k,n,hk,hn,rfl,rfl,hr⟩:=hrel
   have HR:=hid hr
   clear hr
   by_cases hlt:k<s.size
   ·have HD:=hid (data_drop s k hlt)
    go_wp2
    all_goals first
     |(go_round
       case rel=>exact⟨k+1,n*10+(s[k].toNat-48),by omega,by omega,by go_num,by go_num,HR.out.trans (by rw [HD.out,rdGo_dig (by omega) (by omega) (by omega)])⟩
       case measure=>simp [intOf];omega)
     |(go_ret2
       exact⟨ret_val (end_none HN.out (HR.out.trans (by rw [HD.out];first|exact rdGo_bad (by omega)|exact rdGo_big (by omega)))),rfl⟩)
   ·go_wp2
    go_ret2
    exact⟨ret_val (end_some HN.out (HR.out.trans (by rw [List.drop_eq_nil_of_le (by simp;omega),rdGo]))),rfl⟩
theorem sDig_any (s:ByteArray)(hs:s.size≤maxLen)(w:World):
  Calls Tryz.prog 55 #[.string s] w fun e w'=>e=.returned (tupN (rdL s.data.toList))∧w=w':=by
 unfold maxLen at hs
 by_cases h0:s.size=0
 ·have he:s=⟨#[]⟩:=by apply ByteArray.ext;exact Array.eq_empty_of_size_eq_zero h0
  subst he
  go_enter Tryz.func55,Tryz.ntmps55
  go_wp2
  go_loop [4,5] (fun x i=>x=.int .i64 0∧i=.int .i64 0) (fun _ i=>0)
  case atStart=>exact⟨rfl,rfl⟩
  case round=>
   obtain⟨rfl,rfl⟩:=hrel
   go_wp2
   go_ret2
   exact⟨ret_val rfl,rfl⟩
 ·have HN:Hid (s.data.toList≠[]):=hid (data_ne (by omega))
  go_enter Tryz.func55,Tryz.ntmps55
  go_wp2
  go_loop [4,5] (fun x i=>∃k n:Nat,k≤s.size∧n≤1000000000∧x=.int .i64 n∧i=.int .i64 k∧rdGo 0 s.data.toList=rdGo n (s.data.toList.drop k)) (fun _ i=>s.size-(intOf i).toNat)
  case atStart=>exact⟨0,0,by omega,by omega,rfl,rfl,rfl⟩
  case round=>
   obtain⟨k,n,hk,hn,rfl,rfl,hr⟩:=hrel
   have HR:=hid hr
   clear hr
   by_cases hlt:k<s.size
   ·have HD:=hid (data_drop s k hlt)
    by_cases hin:48≤(s[k].toNat:Int)∧(s[k].toNat:Int)≤57
    ·obtain⟨hi1,hi2⟩:=hin
     go_wp2_with (go_at_call 56;refine(sIn_yes _ _ _ _ (by omega) (by omega)).mono ?_;rintro e w' ⟨rfl,rfl⟩)
     ·go_ret2
      exact⟨ret_val (end_none HN.out (HR.out.trans (by rw [HD.out];exact rdGo_big (by omega)))),rfl⟩
     ·go_round
      case rel=>exact⟨k+1,n*10+(s[k].toNat-48),by omega,by omega,by go_num,by go_num,HR.out.trans (by rw [HD.out,rdGo_dig (by omega) (by omega) (by omega)])⟩
      case measure=>simp [intOf];omega
    ·have hi':Hid (s[k].toNat<48∨57<s[k].toNat):=hid (by omega)
     clear hin
     have hby:(s[k].toNat:Int)≤255:=by have:=s[k].toNat_lt;omega
     go_wp2_with (go_at_call 56;refine(sIn_no _ _ _ _ (by have:=hi'.out;omega)).mono ?_;rintro e w' ⟨rfl,rfl⟩)
     go_ret2
     exact⟨ret_val (end_none HN.out (HR.out.trans (by rw [HD.out];exact rdGo_bad hi'.out))),rfl⟩
   ·have hlt':s.size≤k:=by omega
    clear hlt
    have hd0:decide (0<s.size)=true:=by simp;omega
    go_wp2
    go_ret2
    exact⟨ret_val (end_some HN.out (HR.out.trans (by rw [List.drop_eq_nil_of_le (by simp;omega),rdGo]))),rfl⟩
def unS (s:ByteArray):ByteArray:=⟨(unsign s.data.toList).toArray⟩
theorem unS_data (s:ByteArray):(unS s).data.toList=unsign s.data.toList:=by simp [unS]
theorem unS_size (s:ByteArray):(unS s).size≤s.size:=by
 have e:(unS s).size=(unsign s.data.toList).length:=by simp [unS,ByteArray.size]
 have e2:s.size=s.data.toList.length:=by simp
 rw [e,e2]
 cases s.data.toList with
 | nil=>simp [unsign]
 | cons c r=>simp only [unsign];split<;>simp
theorem unS_sign {s:ByteArray}(h:0<s.size)(h':s[0]=45∨s[0]=43):s.extract 1 s.size=unS s:=by
 apply ByteArray.ext
 apply Array.toList_inj.1
 rw [unS_data,Lib.extract_data,data_cons s h,unsign,if_pos h']
 simp
 exact List.take_of_length_le (by simp)
theorem unS_plain {s:ByteArray}(h:0<s.size)(h':¬(s[0]=45∨s[0]=43)):s=unS s:=by
 apply ByteArray.ext
 apply Array.toList_inj.1
 rw [unS_data,data_cons s h,unsign,if_neg h']
theorem minus_of {s:ByteArray}(h:0<s.size):minus s.data.toList=(s[0]==45):=by rw [data_cons s h];rfl
theorem iUn_any (s:ByteArray)(hs:s.size≤maxLen)(w:World):
  Calls Tryz.prog 84 #[.string s] w fun e w'=>e=.returned (.string (unS s))∧w=w':=by
 unfold maxLen at hs
 by_cases h0:s.size=0
 ·have he:s=⟨#[]⟩:=by apply ByteArray.ext;exact Array.eq_empty_of_size_eq_zero h0
  subst he
  go_enter Tryz.func84,Tryz.ntmps84
  go_wp2
  go_ret
  exact⟨ret_str rfl,rfl⟩
 ·have hp:0<s.size:=by omega
  have hne:s.toList.isEmpty=false:=not_empty hp
  go_enter Tryz.func84,Tryz.ntmps84
  go_wp2
  ·go_ret
   exact⟨ret_str (unS_sign hp (Or.inl (byte_eq (d:=45) ‹_›))),rfl⟩
  ·go_ret
   have h:((s[0].toNat:Int)==45)=true∨((s[0].toNat:Int)==43)=true:=by assumption
   exact⟨ret_str (unS_sign hp (h.elim (fun h=>.inl (byte_eq (d:=45) (by simpa using h))) (fun h=>.inr (byte_eq (d:=43) (by simpa using h))))),rfl⟩
  ·go_ret
   have h:((s[0].toNat:Int)==45)=false∧((s[0].toNat:Int)==43)=false:=by assumption
   exact⟨ret_str (unS_plain hp (by rintro(e|e)<;>simp [e]at h)),rfl⟩
/-! the two readers at what stands behind the sign -/
theorem iDig_none (s:ByteArray)(hs:s.size≤maxLen)(w:World)(h:rdL s.data.toList=none):
  Calls Tryz.prog 83 #[.string s] w fun e w'=>e=.returned (.tuple #[.int .i64 0,.bool false])∧w=w':=
 (iDig_any s hs w).mono fun _ _ ⟨he,hw⟩=>⟨by rw [he,tupN_none h],hw⟩
theorem iDig_some (s:ByteArray)(hs:s.size≤maxLen)(w:World)(m:Nat)(h:rdL s.data.toList=some m):
  Calls Tryz.prog 83 #[.string s] w fun e w'=>e=.returned (.tuple #[.int .i64 m,.bool true])∧w=w':=
 (iDig_any s hs w).mono fun _ _ ⟨he,hw⟩=>⟨by rw [he,tupN_some h],hw⟩
theorem sDig_none (s:ByteArray)(hs:s.size≤maxLen)(w:World)(h:rdL s.data.toList=none):
  Calls Tryz.prog 55 #[.string s] w fun e w'=>e=.returned (.tuple #[.int .i64 0,.bool false])∧w=w':=
 (sDig_any s hs w).mono fun _ _ ⟨he,hw⟩=>⟨by rw [he,tupN_none h],hw⟩
theorem sDig_some (s:ByteArray)(hs:s.size≤maxLen)(w:World)(m:Nat)(h:rdL s.data.toList=some m):
  Calls Tryz.prog 55 #[.string s] w fun e w'=>e=.returned (.tuple #[.int .i64 m,.bool true])∧w=w':=
 (sDig_any s hs w).mono fun _ _ ⟨he,hw⟩=>⟨by rw [he,tupN_some h],hw⟩
theorem read_none {s:ByteArray}(h:rdL (unS s).data.toList=none):Value.tuple #[.int .i64 0,.bool false]=tupI (readL s.data.toList):=by
 rw [unS_data]at h;unfold readL;rw [h];rfl
theorem read_neg {s:ByteArray}{m:Nat}(h:rdL (unS s).data.toList=some m)(h0:0<s.size)(h1:s[0]=45):Value.tuple #[.int .i64 (-(m:Int)),.bool true]=tupI (readL s.data.toList):=by
 rw [unS_data]at h;unfold readL;rw [h,minus_of h0,h1];rfl
theorem read_pos {s:ByteArray}{m:Nat}(h:rdL (unS s).data.toList=some m)(h0:0<s.size)(h1:s[0]≠45):Value.tuple #[.int .i64 (m:Int),.bool true]=tupI (readL s.data.toList):=by
 rw [unS_data]at h;unfold readL;rw [h,minus_of h0,beq_eq_false_iff_ne.2 h1];rfl
theorem some_size {s:ByteArray}{m:Nat}(h:rdL (unS s).data.toList=some m):0<s.size:=by
 have:=unS_size s
 have:(unS s).size≠0:=by
  intro e
  have he:unS s=⟨#[]⟩:=by apply ByteArray.ext;exact Array.eq_empty_of_size_eq_zero e
  rw [he]at h;simp [rdL]at h
 omega
theorem iRead_any (s:ByteArray)(hs:s.size≤maxLen)(w:World):
  Calls Tryz.prog 42 #[.string s] w fun e w'=>e=.returned (tupI (readL s.data.toList))∧w=w':=by
 have hu:(unS s).size≤maxLen:=Nat.le_trans (unS_size s) hs
 cases h:rdL (unS s).data.toList with
 | none =>
  have H:=hid h
  clear h
  go_enter Tryz.func42,Tryz.ntmps42
  go_wp2_with (first
   |(go_at_call 84;refine(iUn_any _ hs _).mono ?_;rintro e w' ⟨rfl,rfl⟩)
   |(go_at_call 83;refine(iDig_none _ hu _ H.out).mono ?_;rintro e w' ⟨rfl,rfl⟩))
  go_ret2
  exact⟨ret_val (read_none H.out),rfl⟩
 | some m =>
  have h0:=some_size h
  have hm:=rdL_le h
  have H:=hid h
  clear h
  by_cases h1:s[0]=45
  ·have h1':((s[0].toNat:Int)==45)=true:=by rw [h1];rfl
   have H1:=hid h1
   clear h1
   go_enter Tryz.func42,Tryz.ntmps42
   go_wp2_with (first
    |(go_at_call 84;refine(iUn_any _ hs _).mono ?_;rintro e w' ⟨rfl,rfl⟩)
    |(go_at_call 83;refine(iDig_some _ hu _ m H.out).mono ?_;rintro e w' ⟨rfl,rfl⟩))
   go_ret2
   exact⟨ret_val (read_neg H.out h0 H1.out),rfl⟩
  ·have h1':((s[0].toNat:Int)==45)=false:=byte_ne (d:=45) h1
   have H1:=hid h1
   clear h1
   go_enter Tryz.func42,Tryz.ntmps42
   go_wp2_with (first
    |(go_at_call 84;refine(iUn_any _ hs _).mono ?_;rintro e w' ⟨rfl,rfl⟩)
    |(go_at_call 83;refine(iDig_some _ hu _ m H.out).mono ?_;rintro e w' ⟨rfl,rfl⟩))
   go_ret2
   exact⟨ret_val (read_pos H.out h0 H1.out),rfl⟩
end
section
open Go.RowKit NumP

theorem plain_data {s:ByteArray}(h:0<s.size)(h':¬(s[0]=45∨s[0]=43)):unsign s.data.toList=s.data.toList:=by
 rw [←unS_data,←unS_plain h h']
theorem sRead_any (s:ByteArray)(hs:s.size≤maxLen)(w:World):
  Calls Tryz.prog 25 #[.string s] w fun e w'=>e=.returned (tupI (readL s.data.toList))∧w=w':=by
 have hu:(unS s).size≤maxLen:=Nat.le_trans (unS_size s) hs
 by_cases h0:0<s.size
 ·by_cases h45:s[0]=45
  ·have h1':((s[0].toNat:Int)==45)=true:=by rw [h45];rfl
   have hx:=unS_sign h0 (.inl h45)
   have H1:=hid h45
   clear h45
   cases h:rdL (unS s).data.toList with
   | none =>
    have H:=hid h
    clear h
    go_enter Tryz.func25,Tryz.ntmps25
    go_wp2_with (go_at_call 55;refine(sDig_none _ hu _ H.out).mono ?_;rintro e w' ⟨rfl,rfl⟩)
    go_ret2
    exact⟨ret_val (read_none H.out),rfl⟩
   | some m =>
    have hm:=rdL_le h
    have H:=hid h
    clear h
    go_enter Tryz.func25,Tryz.ntmps25
    go_wp2_with (go_at_call 55;refine(sDig_some _ hu _ m H.out).mono ?_;rintro e w' ⟨rfl,rfl⟩)
    go_ret2
    exact⟨ret_val (read_neg H.out h0 H1.out),rfl⟩
  ·have h1':((s[0].toNat:Int)==45)=false:=byte_ne (d:=45) h45
   have H1:=hid h45
   by_cases h43:s[0]=43
   ·have h2':((s[0].toNat:Int)==43)=true:=by rw [h43];rfl
    have hx:=unS_sign h0 (.inr h43)
    clear h43 h45
    cases h:rdL (unS s).data.toList with
    | none =>
     have H:=hid h
     clear h
     go_enter Tryz.func25,Tryz.ntmps25
     go_wp2_with (go_at_call 55;refine(sDig_none _ hu _ H.out).mono ?_;rintro e w' ⟨rfl,rfl⟩)
     go_ret2
     exact⟨ret_val (read_none H.out),rfl⟩
    | some m =>
     have hm:=rdL_le h
     have H:=hid h
     clear h
     go_enter Tryz.func25,Tryz.ntmps25
     go_wp2_with (go_at_call 55;refine(sDig_some _ hu _ m H.out).mono ?_;rintro e w' ⟨rfl,rfl⟩)
     go_ret2
     exact⟨ret_val (read_pos H.out h0 H1.out),rfl⟩
   ·have h2':((s[0].toNat:Int)==43)=false:=byte_ne (d:=43) h43
    have HX:Hid (rdL (unS s).data.toList=rdL s.data.toList):=hid (by rw [unS_data,plain_data h0 (by simp [h45,h43])])
    clear h43 h45
    cases h:rdL (unS s).data.toList with
    | none =>
     have H:=hid h
     clear h
     go_enter Tryz.func25,Tryz.ntmps25
     go_wp2_with (go_at_call 55;refine(sDig_none _ hs _ (HX.out▸H.out)).mono ?_;rintro e w' ⟨rfl,rfl⟩)
     go_ret2
     exact⟨ret_val (read_none H.out),rfl⟩
    | some m =>
     have hm:=rdL_le h
     have H:=hid h
     clear h
     go_enter Tryz.func25,Tryz.ntmps25
     go_wp2_with (go_at_call 55;refine(sDig_some _ hs _ m (HX.out▸H.out)).mono ?_;rintro e w' ⟨rfl,rfl⟩)
     go_ret2
     exact⟨ret_val (read_pos H.out h0 H1.out),rfl⟩
 ·have he:s=⟨#[]⟩:=by apply ByteArray.ext;exact Array.eq_empty_of_size_eq_zero (by show s.size=0;omega)
  subst he
  go_enter Tryz.func25,Tryz.ntmps25
  go_wp2_with (go_at_call 55;refine(sDig_none ⟨#[]⟩ hs _ rfl).mono ?_;rintro e w' ⟨rfl,rfl⟩)
  go_ret2
  exact⟨ret_val rfl,rfl⟩
theorem iRead_none (s:ByteArray)(hs:s.size≤maxLen)(w:World)(h:readL s.data.toList=none):
  Calls Tryz.prog 42 #[.string s] w fun e w'=>e=.returned (.tuple #[.int .i64 0,.bool false])∧w=w':=
 (iRead_any s hs w).mono fun _ _ ⟨he,hw⟩=>⟨by rw [he,h];rfl,hw⟩
theorem iRead_some (s:ByteArray)(hs:s.size≤maxLen)(w:World)(n:Int)(h:readL s.data.toList=some n):
  Calls Tryz.prog 42 #[.string s] w fun e w'=>e=.returned (.tuple #[.int .i64 n,.bool true])∧w=w':=
 (iRead_any s hs w).mono fun _ _ ⟨he,hw⟩=>⟨by rw [he,h];rfl,hw⟩
theorem fmt_eq {n:Int}{s:ByteArray}(h:fmtL n=s.data.toList):fmtS n=s:=by
 apply ByteArray.ext;apply Array.toList_inj.1;simp [fmtS,h]
theorem fmt_neB {n:Int}{s:ByteArray}(h:fmtL n≠s.data.toList):(!(fmtS n).toList==s.toList)=true:=by
 rw [ByteArray.toList_eq,ByteArray.toList_eq]
 have:((fmtS n).data.toList==s.data.toList)=false:=beq_eq_false_iff_ne.2 (by simpa [fmtS]using h)
 rw [this];rfl
theorem parse_ok {l:List UInt8}{n:Int}(h:readL l=some n)(hf:fmtL n=l):Value.tuple #[.int .i64 n,.bool true]=tupI (parseL l):=by
 unfold parseL;rw [h];simp only [Option.bind_some];rw [if_pos hf];rfl
theorem parse_fail {l:List UInt8}{n:Int}(h:readL l=some n)(hf:fmtL n≠l):Value.tuple #[.int .i64 0,.bool false]=tupI (parseL l):=by
 unfold parseL;rw [h];simp only [Option.bind_some];rw [if_neg hf];rfl
theorem iParse_any (s:ByteArray)(hs:s.size≤maxLen)(w:World):
  Calls Tryz.prog 14 #[.string s] w fun e w'=>e=.returned (tupI (parseL s.data.toList))∧Below w.heap.size w w':=by
 cases h:readL s.data.toList with
 | none =>
  have H:=hid h
  clear h
  go_enter Tryz.func14,Tryz.ntmps14
  go_wp2_with (go_at_call 42;refine(iRead_none _ hs _ H.out).mono ?_;rintro e w' ⟨rfl,rfl⟩)
  go_ret2
  exact⟨ret_val (by unfold parseL;rw [H.out];rfl),Below.refl _ _⟩
 | some n =>
  have hb:=readL_bd h
  have H:=hid h
  clear h
  by_cases hf:fmtL n=s.data.toList
  ·have HF:=hid hf
   have e1:=fmt_eq hf
   clear hf
   go_enter Tryz.func14,Tryz.ntmps14
   go_wp2_with (first
    |(go_at_call 42;refine(iRead_some _ hs _ n H.out).mono ?_;rintro e w' ⟨rfl,rfl⟩)
    |(go_at_call 43;refine(iFmt_any n (by omega) (by omega) _).mono ?_;rintro e w' ⟨rfl,hb⟩))
   go_ret2
   exact⟨ret_val (parse_ok H.out HF.out),hb⟩
  ·have HF:=hid hf
   have e1:=fmt_neB hf
   clear hf
   go_enter Tryz.func14,Tryz.ntmps14
   go_wp2_with (first
    |(go_at_call 42;refine(iRead_some _ hs _ n H.out).mono ?_;rintro e w' ⟨rfl,rfl⟩)
    |(go_at_call 43;refine(iFmt_any n (by omega) (by omega) _).mono ?_;rintro e w' ⟨rfl,hb⟩))
   go_ret2
   exact⟨ret_val (parse_fail H.out HF.out),hb⟩
end
section
open Go.RowKit

inductive Rtc (R:Nat→Nat→Prop):Nat→Nat→Prop
 | refl (i:Nat):Rtc R i i
 | step {i j k:Nat} (h:R i j) (t:Rtc R j k):Rtc R i k
theorem Rtc.one {R:Nat→Nat→Prop}{i j:Nat}(h:R i j):Rtc R i j:=.step h (.refl _)
theorem Rtc.trans {R:Nat→Nat→Prop}{i j k:Nat}(h:Rtc R i j)(h':Rtc R j k):Rtc R i k:=by
 induction h with
 | refl _=>exact h'
 | step h _ ih=>exact .step h (ih h')
def SeqR (R:Pat→Nat→Nat→Prop):List Pat→Nat→Nat→Prop
 | [],i,j=>i=j
 | p::l,i,j=>∃k,R p i k∧SeqR R l k j
def ChAt (s:ByteArray)(t:ByteArray)(i:Nat):Prop:=∃h:i<s.size,s[i]∈t.data.toList
def StepM (s:ByteArray)(R:Pat→Nat→Nat→Prop)(p:Pat)(i j:Nat):Prop:=
 if p.x.op=1 then ChAt s p.x.text i∧j=i+1
 else if p.x.op=2 then SeqR R p.kids i j
 else if p.x.op=3 then ∃k,k∈p.kids∧R k i j
 else if p.x.op=4 then(match p.kids with
  | [k]=>Rtc (R k) i j
  | _=>i=j)
 else if p.x.op=5 then(match p.kids with
  | [k]=>i=j∨R k i j
  | _=>i=j)
 else False
def Mt (s:ByteArray):Nat→Pat→Nat→Nat→Prop
 | 0,p=>StepM s (fun _ _ _=>False) p
 | d+1,p=>StepM s (Mt s d) p
def kidM (s:ByteArray):Nat→Pat→Nat→Nat→Prop
 | 0=>fun _ _ _=>False
 | d+1=>Mt s d
theorem mt_step (s:ByteArray)(d:Nat)(p:Pat):Mt s d p=StepM s (kidM s d) p:=by cases d<;>rfl
def On (l:List Bool)(i:Nat):Prop:=l[i]? =some true
theorem on_lt {l:List Bool}{i:Nat}(h:On l i):i<l.length:=(List.getElem?_eq_some_iff.1 h).1
def EndsOf (R:Nat→Nat→Prop)(A O:List Bool):Prop:=∀j,j<O.length→(On O j↔∃i,On A i∧R i j)
theorem on_rep (n i:Nat):¬On (List.replicate n false) i:=by
 unfold On;rw [List.getElem?_replicate];split<;>simp
theorem on_set {l:List Bool}{i j:Nat}(hi:i<l.length)(b:Bool):On (l.set i b) j↔(j=i∧b=true)∨(j≠i∧On l j):=by
 unfold On
 rw [List.getElem?_set]
 by_cases e:i=j
 ·subst e
  rw [if_pos rfl,if_pos hi]
  simp
 ·rw [if_neg e]
  constructor
  ·intro h;exact .inr ⟨fun h'=>e h'.symm,h⟩
  ·rintro(⟨h,_⟩|⟨_,h⟩)
   ·exact absurd h.symm e
   ·exact h
theorem on_get {l:List Bool}{i:Nat}(h:i<l.length):On l i↔l[i]=true:=by unfold On;rw [List.getElem?_eq_getElem h];simp
def cntB (l:List Bool):Nat:=(l.filter fun b=>b).length
theorem cntB_le (l:List Bool):cntB l≤l.length:=List.length_filter_le _ _
theorem cnt_grows:∀ {l m:List Bool},l.length=m.length→(∀i,On l i→On m i)→l≠m→cntB l<cntB m
 | [],[],_,_,h=>absurd rfl h
 | a :: l, b :: m, hl, h, hne => by
  have hl':l.length=m.length:=by simpa using hl
  have h0:a=true→b=true:=fun e=>by have:=h 0 (by simp [On,e]);simpa [On]using this
  have h1:∀i,On l i→On m i:=fun i hi=>by have:=h (i+1) (by simpa [On]using hi);simpa [On]using this
  unfold cntB
  by_cases e:l=m
  ·subst e
   have hab:a≠b:=fun e'=>hne (by rw [e'])
   cases a
   ·cases b
    ·exact absurd rfl hab
    ·simp
   ·exact absurd (h0 rfl).symm hab
  ·have ih:=cnt_grows hl' h1 e
   unfold cntB at ih
   cases a
   ·cases b<;>simp<;>omega
   ·rw [h0 rfl];simp;omega
 | [],_::_,hl,_,_=>by simp at hl
 | _::_,[],hl,_,_=>by simp at hl
end
section
open Go.RowKit

theorem seqR_congr {R R':Pat→Nat→Nat→Prop}:∀(l:List Pat) (_:∀k,k∈l→R k=R' k),SeqR R l=SeqR R' l
 | [],_=>rfl
 | p :: l, h => by
  funext i j
  unfold SeqR
  rw [h p (by simp),seqR_congr l (fun k hk=>h k (by simp [hk]))]
theorem stepM_congr {s:ByteArray}{R R':Pat→Nat→Nat→Prop}{t:Pat}(h:∀k,k∈t.kids→R k=R' k):StepM s R t=StepM s R' t:=by
 funext i j
 unfold StepM
 rw [seqR_congr t.kids h]
 have h3:(∃k,k∈t.kids∧R k i j)=∃k,k∈t.kids∧R' k i j:=by
  apply propext
  constructor
  ·rintro⟨k,hk,hr⟩;exact⟨k,hk,by rw [←h k hk];exact hr⟩
  ·rintro⟨k,hk,hr⟩;exact⟨k,hk,by rw [h k hk];exact hr⟩
 rw [h3]
 generalize t.kids=l at h
 cases l with
 | nil=>rfl
 | cons k r =>
  cases r with
  | nil=>dsimp only;rw [h k (by simp)]
  | cons _ _=>rfl
end
end Go.Proofs.YtecladbckadijaaGreatDoor
