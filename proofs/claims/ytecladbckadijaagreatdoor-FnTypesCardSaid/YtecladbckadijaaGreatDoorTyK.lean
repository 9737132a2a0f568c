/- MERGED for a claim. -/
import Derived.Test.YtecladbckadijaaGreatDoorTyE
import Derived.Laws.AppendOwnNone
import Derived.Lib.SliceRun
set_option linter.unusedVariables false
set_option linter.unusedSimpArgs false
set_option maxRecDepth 100000
set_option maxHeartbeats 16000000
namespace Go.Proofs.YtecladbckadijaaGreatDoor
open Go.Lib (hid)
section
open Go.RowKit NumP

theorem canon_no {t:Ty}(s:ByteArray)(h:isTyB t=false):canonT t s=none:=by unfold canonT;rw [if_neg (by rw [h];simp)]
theorem canon_yes {t:Ty}(s:ByteArray)(h:isTyB t=true):canonT t s=canO t s:=by unfold canonT;rw [if_pos h]
theorem canon_none {t:Ty}{s:ByteArray}(h:canO t s=none):canonT t s=none:=by unfold canonT;split<;>simp [h]
theorem tup_none {t:Ty}{s:ByteArray}(h:canonT t s=none):tupS (canonT t s)=.tuple #[.string ⟨#[]⟩,.bool false]:=by rw [h];rfl
theorem tup_some {t:Ty}{s x:ByteArray}(h:canonT t s=some x):tupS (canonT t s)=.tuple #[.string x,.bool true]:=by rw [h];rfl
def numO (o:Option Int):Int:=o.getD 0
noncomputable def okI (l:List Rg)(o:Option Int):Bool:=match o with|some n=>inB l n|none=>false
theorem canonInt_any (v:Value)(l:List Rg)(s:ByteArray)(hs:s.size≤1048576)(w:World)(hv:HasG w v l):
  Calls Tryz.prog 20 #[.agg #[v],.string s] w fun e w'=>e=.returned (.tuple #[.string (fmtS (numO (readL s.data.toList))),.bool (okI l (readL s.data.toList))])∧Below w.heap.size w w':=by
 have hR:=fun w=>iRead_any s (by unfold maxLen;omega) w
 obtain⟨A,c,rfl,-⟩:=id hv
 have hb0:=below_al (Below.refl w.heap.size w) (.cells #[.slice A l.length c] 49)
 have HV:=hid (fun n W (hb:Below w.heap.size w W)=>iInR_any (.slice A l.length c) l n W (HasR.below hv hb))
 have HB0:=hid hb0
 have HK:Hid (∀W,Below (w.alloc (.cells #[.slice A l.length c] 49)).heap.size (w.alloc (.cells #[.slice A l.length c] 49)) W→W.cell? ⟨w.heap.size,0,none⟩=some (.slice A l.length c)):=hid fun W hb=>by
  rw [hb.cell (by simp)]
  rw [cell_of_row _ _ 0 _ _ _ (heap_alloc_new w _)];rfl
 clear hv hb0 hs
 cases ho:readL s.data.toList with
 | none =>
  rw [ho]at hR
  have HR:Hid (∀w,Calls Tryz.prog 42 #[.string s] w fun e w'=>e=.returned (.tuple #[.int .i64 0,.bool false])∧w=w'):=hid hR
  have HF:=hid (fun w=>iFmt_any 0 (by omega) (by omega) w)
  clear ho hR
  generalize l.length=n at*
  go_enter Tryz.func20,Tryz.ntmps20
  go_wp2_with (first
   |(go_at_call 42;refine(HR.out _).mono ?_;rintro e w1 ⟨rfl,rfl⟩)
   |(go_at_call 43;refine(HF.out _).mono ?_;rintro e w2 ⟨rfl,hb2⟩;have c2:=HK.out _ hb2))
  go_ret2
  exact⟨rfl,below_step HB0.out hb2⟩
 | some x =>
  rw [ho]at hR
  have HR:Hid (∀w,Calls Tryz.prog 42 #[.string s] w fun e w'=>e=.returned (.tuple #[.int .i64 x,.bool true])∧w=w'):=hid hR
  have hbd:=readL_bd ho
  have HF:=hid (fun w=>iFmt_any x (by omega) (by omega) w)
  replace HV:=hid (HV.out x)
  have HO:Hid (okI l (some x)=inB l x):=hid rfl
  obtain⟨b,hb⟩:∃b,b=inB l x:=⟨_,rfl⟩
  rw [←hb]at HV HO
  clear ho hR hb hbd
  generalize l.length=n at*
  go_enter Tryz.func20,Tryz.ntmps20
  go_wp2_with (first
   |(go_at_call 42;refine(HR.out _).mono ?_;rintro e w1 ⟨rfl,rfl⟩)
   |(go_at_call 43;refine(HF.out _).mono ?_;rintro e w2 ⟨rfl,hb2⟩;have c2:=HK.out _ hb2;have HB2:=hid (below_step HB0.out hb2))
   |(go_at_call 15;refine(HV.out _ HB2.out).mono ?_;rintro e w3 ⟨rfl,hb3⟩))
  go_ret2
  exact⟨by rw [HO.out];rfl,below_step HB2.out hb3⟩
theorem isTextOf_any (v:Value)(l:List Rg)(pt s:ByteArray)(hp:pt.size≤1048576)(hs:s.size≤1048576)(w:World)(hv:HasG w v l):
  Calls Tryz.prog 21 #[.agg #[v,.string pt],.string s] w fun e w'=>e=.returned (.bool (textB s&&inB l s.size&&(emB pt || textOfB pt s)))∧Below w.heap.size w w':=by
 have HT:=hid (fun w=>iIsText_any s (by unfold maxLen;omega) w)
 have HM:=hid (fun w=>iMText_any pt s (by unfold maxLen;omega) (by omega) w)
 obtain⟨A,c,rfl,-⟩:=id hv
 have hb0:=below_al (Below.refl w.heap.size w) (.cells #[.slice A l.length c,.string pt] 52)
 have HV:=hid (fun W (hb:Below w.heap.size w W)=>iInR_any (.slice A l.length c) l s.size W (HasR.below hv hb))
 have HB0:=hid hb0
 have HK:Hid (∀W,Below (w.alloc (.cells #[.slice A l.length c,.string pt] 52)).heap.size (w.alloc (.cells #[.slice A l.length c,.string pt] 52)) W→W.cell? ⟨w.heap.size,0,none⟩=some (.slice A l.length c)∧W.cell? ⟨w.heap.size,1,none⟩=some (.string pt)):=hid fun W hb=>by
  rw [hb.cell (by simp),hb.cell (by simp)]
  rw [cell_of_row _ _ 0 _ _ _ (heap_alloc_new w _),cell_of_row _ _ 1 _ _ _ (heap_alloc_new w _)];exact⟨rfl,rfl⟩
 clear hv hb0
 generalize textB s=b1 at*
 generalize inB l s.size=b2 at*
 generalize textOfB pt s=b3 at*
 generalize l.length=n at*
 cases b1
 ·go_enter Tryz.func21,Tryz.ntmps21
  go_wp2_with (first|(go_at_call 52;refine(HT.out _).mono ?_;rintro e w1 ⟨rfl,rfl⟩))
  go_ret
  exact⟨rfl,HB0.out⟩
 ·cases b2
  ·go_enter Tryz.func21,Tryz.ntmps21
   go_wp2_with (first
    |(go_at_call 52;refine(HT.out _).mono ?_;rintro e w1 ⟨rfl,rfl⟩)
    |(go_at_call 15;refine(HV.out _ HB0.out).mono ?_;rintro e w3 ⟨rfl,hb3⟩))
   go_ret
   exact⟨rfl,below_step HB0.out hb3⟩
  ·rcases em_cases pt with rfl|⟨p1,p2,p3,p4⟩
   ·go_enter Tryz.func21,Tryz.ntmps21
    go_wp2_with (first
     |(go_at_call 52;refine(HT.out _).mono ?_;rintro e w1 ⟨rfl,rfl⟩)
     |(go_at_call 15;refine(HV.out _ HB0.out).mono ?_;rintro e w3 ⟨rfl,hb3⟩;obtain⟨c0,c1⟩:=HK.out _ hb3))
    go_ret
    exact⟨rfl,below_step HB0.out hb3⟩
   ·go_enter Tryz.func21,Tryz.ntmps21
    go_wp2_with (first
     |(go_at_call 52;refine(HT.out _).mono ?_;rintro e w1 ⟨rfl,rfl⟩)
     |(go_at_call 15;refine(HV.out _ HB0.out).mono ?_;rintro e w3 ⟨rfl,hb3⟩;obtain⟨c0,c1⟩:=HK.out _ hb3;have HB3:=hid (below_step HB0.out hb3))
     |(go_at_call 53;refine(HM.out _).mono ?_;rintro e w4 ⟨rfl,hb4⟩))
    go_ret
    exact⟨ret_bool (by rw [p4];rfl),below_step HB3.out hb4⟩
theorem canonBool_any (s:ByteArray)(o:Option ByteArray)(ho:BoolIs s o)(w:World):
  Calls Tryz.prog 22 #[.string s] w fun e w'=>e=.returned (tupS o)∧w=w':=by
 rcases ho with rfl|rfl|rfl|rfl|⟨h1,h2,h3,h4⟩
 all_goals
  go_enter Tryz.func22,Tryz.ntmps22
  go_wp2
  go_ret2
  exact⟨rfl,rfl⟩
def CanK (K:Value)(v:TyV)(s:ByteArray)(o:Option ByteArray)(w:World):Prop:=
 (∀W,Below w.heap.size w W→Calls Tryz.prog 19 #[v.val] W fun e w'=>e=.returned K∧Below W.heap.size W w')→
 Calls Tryz.prog 6 #[v.val,.string s] w fun e w'=>e=.returned (tupS o)∧Below w.heap.size w w'
theorem can_nil (k:Int)(A A':Option Addr)(n c m c':Nat)(pt ph s:ByteArray)(w:World):
  CanK (.nilIface) ⟨k,.slice A n c,.slice A' m c',pt,ph⟩ s (none) w:=by
 intro hC
 have HC:=hid hC
 have T0:=ta_nil_int
 have T1:=ta_nil_text
 have T2:=ta_nil_bool
 have T3:=ta_nil_enum
 have T4:=ta_nil_ref
 have T5:=ta_nil_flag
 have HB0:=hid (below_al (Below.refl w.heap.size w) (.cells #[.int .i64 k,.slice A n c,.slice A' m c',.string pt,.string ph] 27))
 clear hC
 go_enter Tryz.func6,Tryz.ntmps6
 go_wp2_with (first|(go_at_call 19;refine(HC.out _ HB0.out).mono ?_;rintro e w1 ⟨rfl,hb1⟩;have HB1:=hid (below_step HB0.out hb1)))
 go_ret2
 exact⟨rfl,HB1.out⟩
theorem can_int (k:Int)(A A':Option Addr)(n c m c':Nat)(pt ph s:ByteArray)(w:World)(l:List Rg)(hn:n=l.length)(hs:s.size≤1048576)(hv:HasG w (.slice A n c) l):
  CanK (.iface 49 (.agg #[.slice A n c])) ⟨k,.slice A n c,.slice A' m c',pt,ph⟩ s (intO l s) w:=by
 intro hC
 have HC:=hid hC
 have T0:=ta_int_int
 have HB0:=hid (below_al (Below.refl w.heap.size w) (.cells #[.int .i64 k,.slice A n c,.slice A' m c',.string pt,.string ph] 27))
 have HI:=hid (fun W (hb:Below w.heap.size w W)=>canonInt_any (.slice A n c) l s hs W (HasR.below hv hb))
 have hO:intO l s=if okI l (readL s.data.toList)=true then some (fmtS (numO (readL s.data.toList)))else none:=by unfold intO okI;cases readL s.data.toList<;>rfl
 rw [hO]
 generalize fmtS (numO (readL s.data.toList))=x at*
 generalize okI l (readL s.data.toList)=b at*
 clear hO hv hn
 clear hC
 cases b
 all_goals
  go_enter Tryz.func6,Tryz.ntmps6
  go_wp2_with (first
   |(go_at_call 19;refine(HC.out _ HB0.out).mono ?_;rintro e w1 ⟨rfl,hb1⟩;have HB1:=hid (below_step HB0.out hb1))
   |(go_at_call 20;refine(HI.out _ (below_al HB1.out _)).mono ?_;rintro e w2 ⟨rfl,hb2⟩;have HB2:=hid (below_step (below_al HB1.out _) hb2)))
  go_ret2
  exact⟨rfl,HB2.out⟩
theorem can_text (k:Int)(A A':Option Addr)(n c m c':Nat)(pt ph s:ByteArray)(w:World)(l:List Rg)(hn:n=l.length)(hp:pt.size≤1048576)(hs:s.size≤1048576)(hv:HasG w (.slice A n c) l):
  CanK (.iface 52 (.agg #[.slice A n c,.string pt])) ⟨k,.slice A n c,.slice A' m c',pt,ph⟩ s (if (textB s&&inB l s.size&&(emB pt || textOfB pt s))=true then some s else none) w:=by
 intro hC
 have HC:=hid hC
 have T0:=ta_text_int
 have T1:=ta_text_text
 have HB0:=hid (below_al (Below.refl w.heap.size w) (.cells #[.int .i64 k,.slice A n c,.slice A' m c',.string pt,.string ph] 27))
 have HI:=hid (fun W (hb:Below w.heap.size w W)=>isTextOf_any (.slice A n c) l pt s hp hs W (HasR.below hv hb))
 generalize (textB s&&inB l s.size&&(emB pt || textOfB pt s))=b at*
 clear hv hn
 clear hC
 cases b
 all_goals
  go_enter Tryz.func6,Tryz.ntmps6
  go_wp2_with (first
   |(go_at_call 19;refine(HC.out _ HB0.out).mono ?_;rintro e w1 ⟨rfl,hb1⟩;have HB1:=hid (below_step HB0.out hb1))
   |(go_at_call 21;refine(HI.out _ (below_al HB1.out _)).mono ?_;rintro e w2 ⟨rfl,hb2⟩;have HB2:=hid (below_step (below_al HB1.out _) hb2)))
  go_ret2
  exact⟨rfl,HB2.out⟩
theorem can_bool (k:Int)(A A':Option Addr)(n c m c':Nat)(pt ph s:ByteArray)(w:World)(o:Option ByteArray)(ho:BoolIs s o):
  CanK (.iface 55 (.agg #[])) ⟨k,.slice A n c,.slice A' m c',pt,ph⟩ s (o) w:=by
 intro hC
 have HC:=hid hC
 have T0:=ta_bool_int
 have T1:=ta_bool_text
 have T2:=ta_bool_bool
 have HB0:=hid (below_al (Below.refl w.heap.size w) (.cells #[.int .i64 k,.slice A n c,.slice A' m c',.string pt,.string ph] 27))
 have HI:=hid (fun w=>canonBool_any s o ho w)
 clear ho
 clear hC
 cases o
 ·have HI2:Hid (∀w,Calls Tryz.prog 22 #[.string s] w fun e w'=>e=.returned (.tuple #[.string ⟨#[]⟩,.bool false])∧w=w'):=hid HI.out
  clear HI
  go_enter Tryz.func6,Tryz.ntmps6
  go_wp2_with (first
   |(go_at_call 19;refine(HC.out _ HB0.out).mono ?_;rintro e w1 ⟨rfl,hb1⟩;have HB1:=hid (below_step HB0.out hb1))
   |(go_at_call 22;refine(HI2.out _).mono ?_;rintro e w2 ⟨rfl,rfl⟩))
  go_ret2
  exact⟨rfl,below_al HB1.out _⟩
 ·rename_i x
  have HI2:Hid (∀w,Calls Tryz.prog 22 #[.string s] w fun e w'=>e=.returned (.tuple #[.string x,.bool true])∧w=w'):=hid HI.out
  clear HI
  go_enter Tryz.func6,Tryz.ntmps6
  go_wp2_with (first
   |(go_at_call 19;refine(HC.out _ HB0.out).mono ?_;rintro e w1 ⟨rfl,hb1⟩;have HB1:=hid (below_step HB0.out hb1))
   |(go_at_call 22;refine(HI2.out _).mono ?_;rintro e w2 ⟨rfl,rfl⟩))
  go_ret2
  exact⟨rfl,below_al HB1.out _⟩
theorem can_enum (k:Int)(A A':Option Addr)(n c m c':Nat)(pt ph s:ByteArray)(w:World)(l:List ByteArray)(hm:m=l.length)(hv:Has w (.slice A' m c') l):
  CanK (.iface 58 (.agg #[.slice A' m c'])) ⟨k,.slice A n c,.slice A' m c',pt,ph⟩ s (if memB s l=true then some s else none) w:=by
 intro hC
 have HC:=hid hC
 have T0:=ta_enum_int
 have T1:=ta_enum_text
 have T2:=ta_enum_bool
 have T3:=ta_enum_enum
 have HB0:=hid (below_al (Below.refl w.heap.size w) (.cells #[.int .i64 k,.slice A n c,.slice A' m c',.string pt,.string ph] 27))
 have HI:=hid (fun W (hb:Below w.heap.size w W)=>containsB_any (.slice A' m c') l s W (hv.below hb))
 generalize memB s l=b at*
 clear hv hm
 clear hC
 cases b
 all_goals
  go_enter Tryz.func6,Tryz.ntmps6
  go_wp2_with (first
   |(go_at_call 19;refine(HC.out _ HB0.out).mono ?_;rintro e w1 ⟨rfl,hb1⟩;have HB1:=hid (below_step HB0.out hb1))
   |(go_at_call 23;refine(HI.out _ (below_al HB1.out _)).mono ?_;rintro e w2 ⟨rfl,rfl⟩))
  go_ret2
  exact⟨rfl,below_al HB1.out _⟩
theorem can_ref (k:Int)(A A':Option Addr)(n c m c':Nat)(pt ph s:ByteArray)(w:World)(hs:s.size≤1048576):
  CanK (.iface 61 (.agg #[.string ph])) ⟨k,.slice A n c,.slice A' m c',pt,ph⟩ s (if (!emB s&&textB s)=true then some s else none) w:=by
 intro hC
 have HC:=hid hC
 have T0:=ta_ref_int
 have T1:=ta_ref_text
 have T2:=ta_ref_bool
 have T3:=ta_ref_enum
 have T4:=ta_ref_ref
 have HB0:=hid (below_al (Below.refl w.heap.size w) (.cells #[.int .i64 k,.slice A n c,.slice A' m c',.string pt,.string ph] 27))
 have HI:=hid (fun w=>filled_any s hs w)
 generalize (!emB s&&textB s)=b at*
 clear hC
 cases b
 all_goals
  go_enter Tryz.func6,Tryz.ntmps6
  go_wp2_with (first
   |(go_at_call 19;refine(HC.out _ HB0.out).mono ?_;rintro e w1 ⟨rfl,hb1⟩;have HB1:=hid (below_step HB0.out hb1))
   |(go_at_call 24;refine(HI.out _).mono ?_;rintro e w2 ⟨rfl,rfl⟩))
  go_ret2
  exact⟨rfl,below_al HB1.out _⟩
theorem can_flag (k:Int)(A A':Option Addr)(n c m c':Nat)(pt ph s:ByteArray)(w:World):
  CanK (.iface 63 (.agg #[])) ⟨k,.slice A n c,.slice A' m c',pt,ph⟩ s (if emB s=true then some s else none) w:=by
 intro hC
 have HC:=hid hC
 have T0:=ta_flag_int
 have T1:=ta_flag_text
 have T2:=ta_flag_bool
 have T3:=ta_flag_enum
 have T4:=ta_flag_ref
 have T5:=ta_flag_flag
 have HB0:=hid (below_al (Below.refl w.heap.size w) (.cells #[.int .i64 k,.slice A n c,.slice A' m c',.string pt,.string ph] 27))
 clear hC
 rcases em_cases s with rfl|⟨p1,p2,p3,p4⟩
 ·go_enter Tryz.func6,Tryz.ntmps6
  go_wp2_with (first|(go_at_call 19;refine(HC.out _ HB0.out).mono ?_;rintro e w1 ⟨rfl,hb1⟩;have HB1:=hid (below_step HB0.out hb1)))
  go_ret2
  exact⟨rfl,below_al HB1.out _⟩
 ·have p5:(s.toList==([]:List UInt8))=false:=beq_eq_false_iff_ne.2 p3
  rw [show(if emB s=true then some s else none)=none by rw [p4];rfl]
  go_enter Tryz.func6,Tryz.ntmps6
  go_wp2_with (first|(go_at_call 19;refine(HC.out _ HB0.out).mono ?_;rintro e w1 ⟨rfl,hb1⟩;have HB1:=hid (below_step HB0.out hb1)))
  go_ret2
  exact⟨rfl,below_al HB1.out _⟩
theorem iCanon_any (v:TyV)(t:Ty)(s:ByteArray)(w:World)(h:HasTy w v t)(hc:CapN v.vn)(hs:TySz t)(hS:s.size≤1048576):
  Calls Tryz.prog 6 #[v.val,.string s] w fun e w'=>e=.returned (tupS (canonT t s))∧Below w.heap.size w w':=by
 have hC:=fun W (hb:Below w.heap.size w W)=>kindOf_any v t W (h.below hb) hc hs
 obtain⟨A,c,h1,-⟩:=id h.rg
 obtain⟨A',c',h2,-⟩:=id h.nm
 cases hq:isTyB t with
 | false =>
  rw [canon_no s hq]
  rw [hq]at hC
  obtain⟨k,vr,vn,pt,ph⟩:=v
  obtain rfl:vr=_:=h1
  obtain rfl:vn=_:=h2
  exact can_nil _ _ _ _ _ _ _ _ _ _ _ hC
 | true =>
  rw [canon_yes s hq]
  rw [hq]at hC
  obtain⟨k,rg,nm,pt,ph⟩:=t
  obtain⟨k',vr,vn,pt',ph'⟩:=v
  obtain⟨rfl,hr,hn,rfl,rfl⟩:=h
  obtain⟨s1,s2,s3⟩:=hs
  dsimp only at hr hn s1 s2 s3 hC h1 h2 ⊢
  subst h1 h2
  by_cases k1:k'=1
  ·subst k1;exact can_int _ _ _ _ _ _ _ _ _ _ _ rg rfl hS hr hC
  by_cases k2:k'=2
  ·subst k2;exact can_text _ _ _ _ _ _ _ _ _ _ _ rg rfl s2 hS hr hC
  by_cases k3:k'=3
  ·subst k3;exact can_bool _ _ _ _ _ _ _ _ _ _ _ _ (boolO_is s) hC
  by_cases k4:k'=4
  ·subst k4;exact can_enum _ _ _ _ _ _ _ _ _ _ _ nm rfl hn hC
  by_cases k5:k'=5
  ·subst k5;exact can_ref _ _ _ _ _ _ _ _ _ _ _ hS hC
  by_cases k6:k'=6
  ·subst k6;exact can_flag _ _ _ _ _ _ _ _ _ _ _ hC
  unfold isTyB validB at hq
  simp [k1,k2,k3,k4,k5,k6]at hq
noncomputable def isValB (t:Ty)(s:ByteArray):Bool:=match canonT t s with|some x=>x.toList==s.toList|none=>false
theorem iIsVal_any (v:TyV)(t:Ty)(s:ByteArray)(w:World)(h:HasTy w v t)(hc:CapN v.vn)(hs:TySz t)(hS:s.size≤1048576):
  Calls Tryz.prog 8 #[v.val,.string s] w fun e w'=>e=.returned (.bool (isValB t s))∧Below w.heap.size w w':=by
 have HC:=hid (fun W (hb:Below w.heap.size w W)=>iCanon_any v t s W (h.below hb) hc hs hS)
 have HV:Hid (isValB t s=match canonT t s with|some x=>x.toList==s.toList|none=>false):=hid rfl
 obtain⟨A,c,h1,-⟩:=id h.rg
 obtain⟨A',c',h2,-⟩:=id h.nm
 obtain⟨Z,hZ⟩:∃Z,Z=isValB t s:=⟨_,rfl⟩
 rw [←hZ]at HV ⊢
 generalize canonT t s=o at HC HV
 generalize t.rg.length=n at*
 generalize t.nm.length=m at*
 obtain⟨k,vr,vn,pt,ph⟩:=v
 dsimp only at h1 h2
 subst h1 h2
 clear h hs hS hZ hc
 have HB0:=hid (below_al (Below.refl w.heap.size w) (.cells #[.int .i64 k,.slice A n c,.slice A' m c',.string pt,.string ph] 27))
 cases o with
 | none =>
  have HC2:Hid (∀W,Below w.heap.size w W→Calls Tryz.prog 6 #[(⟨k,.slice A n c,.slice A' m c',pt,ph⟩:TyV).val,.string s] W fun e w'=>e=.returned (.tuple #[.string ⟨#[]⟩,.bool false])∧Below W.heap.size W w'):=hid HC.out
  clear HC
  go_enter Tryz.func8,Tryz.ntmps8
  go_wp2_with (first
   |(go_at_call 6;refine(HC2.out _ HB0.out).mono ?_;rintro e w1 ⟨rfl,hb1⟩;have HB1:=hid (below_step HB0.out hb1)))
  go_ret
  exact⟨ret_bool HV.out.symm,HB1.out⟩
 | some x =>
  have HC2:Hid (∀W,Below w.heap.size w W→Calls Tryz.prog 6 #[(⟨k,.slice A n c,.slice A' m c',pt,ph⟩:TyV).val,.string s] W fun e w'=>e=.returned (.tuple #[.string x,.bool true])∧Below W.heap.size W w'):=hid HC.out
  clear HC
  go_enter Tryz.func8,Tryz.ntmps8
  go_wp2_with (first
   |(go_at_call 6;refine(HC2.out _ HB0.out).mono ?_;rintro e w1 ⟨rfl,hb1⟩;have HB1:=hid (below_step HB0.out hb1)))
  go_ret
  exact⟨ret_bool HV.out.symm,HB1.out⟩
end
section
open Go.RowKit NumP

def TyV.own (v:TyV)(j:Nat):Prop:=v.vr.ownBlock=some j∨v.vn.ownBlock=some j
theorem OwnTy.lt {B:Nat}{w:World}{v:TyV}{t:Ty}(h:OwnTy B w v t){j:Nat}(hj:v.own j):B≤j∧j<w.heap.size:=by
 rcases hj with hj|hj
 ·exact RowR.lt h.rg hj
 ·exact h.nm.lt hj
theorem row_frame {B:Nat}{w w':World}{v:Value}{l:List ByteArray}(h:Row B w v l)(hf:∀b,v.ownBlock=some b→w'.heap[b]? =w.heap[b]?):Row B w' v l:=by
 refine⟨h.1,?_⟩
 rcases h.2 with hn|⟨g,cap,cur,rfl,hb,hg,rest⟩
 ·exact .inl hn
 ·exact .inr ⟨g,cap,cur,rfl,hb,(hf g rfl).trans hg,rest⟩
theorem OwnTy.frame {B:Nat}{w w':World}{v:TyV}{t:Ty}(h:OwnTy B w v t)(hf:∀b,v.own b→w'.heap[b]? =w.heap[b]?):OwnTy B w' v t:=
 ⟨h.k,rowR_frame h.rg fun b hb=>hf b (.inl hb),row_frame h.nm fun b hb=>hf b (.inr hb),h.pt,h.ph,h.ne⟩
end
section
open Go.RowKit

theorem addr_add_add (a:Addr)(i j:Nat):(a.add i).add j=a.add (i+j):=by
 unfold Addr.add
 by_cases hi:i=0
 ·subst hi;simp
 ·by_cases hj:j=0
  ·subst hj;simp [hi]
  ·have:¬(i+j=0):=by omega
   simp [hi,hj,this,Nat.add_assoc]
theorem hasR_cells {α:Type}{enc:α→List Value}{z:Nat}{w:World}{l:List α}{a:Addr}(hz:∀x,(enc x).length=z)(h0:0<z)
  (hc:∀i (h:i<l.length),∃a',some a=some a'∧a'.block<w.heap.size∧∀j x,(enc l[i])[j]? =some x→w.cell? ((a'.add (i*z)).add j)=some x) (j:Nat) (u:Value) (hj:(l.flatMap enc)[j]? =some u):w.cell? (a.add j)=some u:=by
 have hlt:j<l.length*z:=by rw [←flat_len hz];exact(List.getElem?_eq_some_iff.1 hj).1
 have hd:j / z<l.length:=(Nat.div_lt_iff_lt_mul h0).2 hlt
 have hm:j % z<z:=Nat.mod_lt _ h0
 have hx:(enc l[j / z])[j % z]? =some ((enc l[j / z])[j % z]'(by rw [hz];exact hm)):=List.getElem?_eq_getElem _
 have hf:=flat_get hz hd hx
 have hjj:j / z*z+j % z=j:=by rw [Nat.mul_comm];exact Nat.div_add_mod j z
 rw [hjj,hj]at hf
 obtain⟨a',ha,hb,h⟩:=hc (j / z) hd
 cases ha
 have h:=h _ _ hx
 rw [addr_add_add,hjj]at h
 rw [h,←hf]
def NilOk (v:Value):Prop:=∀n c,v=.slice none n c→c=0
theorem RowR.nilOk {α:Type}{enc:α→List Value}{z E B:Nat}{w:World}{v:Value}{l:List α}(h:RowR enc z E B w v l):NilOk v:=by
 rcases RowR.form h with ⟨rfl,_⟩|⟨g,cap,rfl,_,_⟩
 ·rintro n c e;cases e;rfl
 ·rintro n c e;cases e
theorem Row.nilOk {B:Nat}{w:World}{v:Value}{l:List ByteArray}(h:Row B w v l):NilOk v:=by
 rcases h.form with ⟨rfl,_⟩|⟨g,cap,rfl,_,_⟩
 ·rintro n c e;cases e;rfl
 ·rintro n c e;cases e
theorem rowG_nil (B:Nat)(w:World):RowG B w (.slice none 0 0) []:=⟨by simp,.inl ⟨rfl,rfl⟩⟩
theorem row_nil (B:Nat)(w:World):Row B w (.slice none 0 0) []:=⟨by simp,.inl ⟨rfl,rfl⟩⟩
theorem hasG_none {w:World}{n c:Nat}{l:List Rg}(h:HasG w (.slice none n c) l):l=[]:=by
 obtain⟨A,cap,e,_,hc⟩:=h
 cases l with
 | nil=>rfl
 | cons x r=>obtain⟨a,h,_⟩:=hc 0 (by simp);cases e;cases h
theorem has_none {w:World}{n c:Nat}{l:List ByteArray}(h:Has w (.slice none n c) l):l=[]:=by
 obtain⟨A,cap,e,_,hc⟩:=h
 cases l with
 | nil=>rfl
 | cons x r=>obtain⟨a,h,_⟩:=hc 0 (by simp);cases e;cases h
theorem wpList_copy_rngs {ops:Array Oper}{rest:List Oper}{o:Oper}{a:Act}{Q:Exit→Act→World→Prop}{w:World}(hgd:o.guard=none)(s x:Operand)
  (ho:o.op=.call { callee:=.builtin .append,args:=#[s,x],argTypes:=#[24,24] })
  (b:Nat) (hs:a.eval s=.slice (some ⟨b,0,none⟩) 0 0) (hb:b=w.heap.size) (v:Value) (l:List Rg) (hx:a.eval x=v) (hv:HasG w v l) (hk:NilOk v) (hn:l.length≤1048576)
  (h:∀v' w',RowG w.heap.size w' v' l→Below w.heap.size w w'→wpList Tryz.prog ops Q rest (a.put o.dst v') w'):
  wpList Tryz.prog ops Q (o::rest) a (w.alloc (.cells #[] 80)):=by
 obtain⟨i0,hi,hz0,hz1,hz2⟩:=info_parts infoRng
 subst hb
 have hown:(w.alloc (.cells #[] 80)).ownsRow w.heap.size 80 2 (.slice (some ⟨w.heap.size,0,none⟩) 0 0) 0 []:=rowG_new w w.heap.size (Nat.le_refl _)
 have hb0:Below w.heap.size w (w.alloc (.cells #[] 80)):=below_al (Below.refl _ _) _
 obtain⟨A,c,rfl,hn',hc⟩:=id hv
 cases A with
 | none =>
  obtain rfl:=hasG_none hv
  obtain rfl:=hk _ _ rfl
  exact wpList_append_own_none hgd s x 24 ho w.heap.size 80 i0 2 Tryz.underlying24 hi _ 0 [] hs hown hx (h _ _ hown hb0)
 | some p =>
  refine wpList_append_own _ hgd s x 24 ho w.heap.size 80 i0 (.agg #[.int .i64 0,.int .i64 0]) 2 16 Tryz.underlying24 hi hz0 hz1 hz2 rfl (by decide) _ 0 [] hs hown p l.length c (l.flatMap Rg.enc) hx (flat_len Rg.enc_len l) (fun j u hj=>?_) (fun u hu=>by obtain⟨y,_,hy⟩:=List.mem_flatMap.1 hu;simp [Rg.enc]at hy;rcases hy with rfl|rfl<;>rfl) (by unfold maxLen;omega) (by omega) hb0.size ?_
  ·have hj':=hasR_cells Rg.enc_len (by omega) hc j u hj
   rw [hb0.cell (lt_of_cell hj')];exact hj'
  ·intro v' w' h2 h3 h4
   refine h v' w' ?_ (hb0.grown h3 hb0.size (fun k hk=>by cases hk;exact Nat.le_refl _))
   unfold RowG RowR
   simpa using h2
theorem strs_cells {w:World}{l:List ByteArray}{a:Addr}(hc:∀i (h:i<l.length),∃a',some a=some a'∧a'.block<w.heap.size∧w.cell? (a'.add i)=some (.string l[i]))(j:Nat)(u:Value)(hj:(l.map Value.string)[j]? =some u):w.cell? (a.add j)=some u:=by
 obtain⟨hlt,e⟩:=List.getElem?_eq_some_iff.1 hj
 rw [List.length_map]at hlt
 obtain⟨a',ha,hb,h⟩:=hc j hlt
 cases ha
 rw [h,←e,List.getElem_map]
theorem wpList_copy_strs {ops:Array Oper}{rest:List Oper}{o:Oper}{a:Act}{Q:Exit→Act→World→Prop}{w:World}(hgd:o.guard=none)(s x:Operand)
  (ho:o.op=.call { callee:=.builtin .append,args:=#[s,x],argTypes:=#[25,25] })
  (b:Nat) (hs:a.eval s=.slice (some ⟨b,0,none⟩) 0 0) (hb:b=w.heap.size) (v:Value) (l:List ByteArray) (hx:a.eval x=v) (hv:Has w v l) (hk:NilOk v) (hn:l.length≤1048576)
  (h:∀v' w',Row w.heap.size w' v' l→Below w.heap.size w w'→wpList Tryz.prog ops Q rest (a.put o.dst v') w'):
  wpList Tryz.prog ops Q (o::rest) a (w.alloc (.cells #[] 9)):=by
 obtain⟨i0,hi,hz0,hz1,hz2⟩:=info_parts infoStr
 subst hb
 have hown:(w.alloc (.cells #[] 9)).ownsRow w.heap.size 9 1 (.slice (some ⟨w.heap.size,0,none⟩) 0 0) 0 []:=⟨by simp,.inr ⟨w.heap.size,0,#[],rfl,Nat.le_refl _,heap_alloc_new w _,by simp,by simp,by simp,by simp⟩⟩
 have hb0:Below w.heap.size w (w.alloc (.cells #[] 9)):=below_al (Below.refl _ _) _
 obtain⟨A,c,rfl,hn',hc⟩:=id hv
 cases A with
 | none =>
  obtain rfl:=has_none hv
  obtain rfl:=hk _ _ rfl
  exact wpList_append_own_none hgd s x 25 ho w.heap.size 9 i0 1 Tryz.underlying25 hi _ 0 [] hs hown hx (h _ _ hown hb0)
 | some p =>
  refine wpList_append_own _ hgd s x 25 ho w.heap.size 9 i0 (.string ⟨#[]⟩) 1 16 Tryz.underlying25 hi hz0 hz1 hz2 rfl (by decide) _ 0 [] hs hown p l.length c (l.map Value.string) hx (by simp) (fun j u hj=>?_) (fun u hu=>by obtain⟨y,_,rfl⟩:=List.mem_map.1 hu;rfl) (by unfold maxLen;omega) (by omega) hb0.size ?_
  ·have hj':=strs_cells hc j u hj
   rw [hb0.cell (lt_of_cell hj')];exact hj'
  ·intro v' w' h2 h3 h4
   refine h v' w' ?_ (hb0.grown h3 hb0.size (fun k hk=>by cases hk;exact Nat.le_refl _))
   unfold Row
   simpa using h2
theorem cloneG_any (v:Value)(l:List Rg)(w:World)(hv:HasG w v l)(hk:NilOk v)(hn:l.length≤1048576):
  Calls Tryz.prog 77 #[v] w fun e w'=>∃v',e=.returned v'∧RowG w.heap.size w' v' l∧Below w.heap.size w w':=by
 obtain⟨A,c,rfl,hn',hc⟩:=id hv
 cases A with
 | none =>
  obtain rfl:=hasG_none hv
  clear hc
  have q22:∀(w:World) (a:Option Addr) (n c n' c':Nat),(binOp .eql 24 (.slice a n c) (.slice none n' c')).run Tryz.prog w=.ok (.bool a.isNone) w:=fun w a n c n' c'=>Lib.run_eql_slice_nil w _ _ a n c n' c' Tryz.underlying24
  go_enter Tryz.func77,Tryz.ntmps77
  go_wp2
  go_ret
  exact⟨_,rfl,rowG_nil _ _,Below.refl _ _⟩
 | some p =>
  clear hc
  have HV:=hid (And.intro hv (And.intro hk hn))
  clear hv hk hn hn'
  generalize hm:l.length=m at*
  have q22:∀(w:World) (a:Option Addr) (n c n' c':Nat),(binOp .eql 24 (.slice a n c) (.slice none n' c')).run Tryz.prog w=.ok (.bool a.isNone) w:=fun w a n c n' c'=>Lib.run_eql_slice_nil w _ _ a n c n' c' Tryz.underlying24
  go_enter Tryz.func77,Tryz.ntmps77
  go_wp2_with (at_builtin;refine wpList_copy_rngs rfl _ _ rfl _ rfl rfl _ l rfl HV.out.1 HV.out.2.1 (by rw [hm];exact HV.out.2.2) ?_;intro v' w1 hr hb)
  go_ret
  exact⟨_,rfl,hr,hb⟩
theorem cloneS_any (v:Value)(l:List ByteArray)(w:World)(hv:Has w v l)(hk:NilOk v)(hn:l.length≤1048576):
  Calls Tryz.prog 78 #[v] w fun e w'=>∃v',e=.returned v'∧Row w.heap.size w' v' l∧Below w.heap.size w w':=by
 obtain⟨A,c,rfl,hn',hc⟩:=id hv
 cases A with
 | none =>
  obtain rfl:=has_none hv
  clear hc
  have q22:∀(w:World) (a:Option Addr) (n c n' c':Nat),(binOp .eql 25 (.slice a n c) (.slice none n' c')).run Tryz.prog w=.ok (.bool a.isNone) w:=fun w a n c n' c'=>Lib.run_eql_slice_nil w _ _ a n c n' c' Tryz.underlying25
  go_enter Tryz.func78,Tryz.ntmps78
  go_wp2
  go_ret
  exact⟨_,rfl,row_nil _ _,Below.refl _ _⟩
 | some p =>
  clear hc
  have HV:=hid (And.intro hv (And.intro hk hn))
  clear hv hk hn hn'
  generalize hm:l.length=m at*
  have q22:∀(w:World) (a:Option Addr) (n c n' c':Nat),(binOp .eql 25 (.slice a n c) (.slice none n' c')).run Tryz.prog w=.ok (.bool a.isNone) w:=fun w a n c n' c'=>Lib.run_eql_slice_nil w _ _ a n c n' c' Tryz.underlying25
  go_enter Tryz.func78,Tryz.ntmps78
  go_wp2_with (at_builtin;refine wpList_copy_strs rfl _ _ rfl _ rfl rfl _ l rfl HV.out.1 HV.out.2.1 (by rw [hm];exact HV.out.2.2) ?_;intro v' w1 hr hb)
  go_ret
  exact⟨_,rfl,hr,hb⟩
def NilTy (v:TyV):Prop:=NilOk v.vr∧NilOk v.vn
theorem OwnTy.nilTy {B:Nat}{w:World}{v:TyV}{t:Ty}(h:OwnTy B w v t):NilTy v:=⟨RowR.nilOk h.rg,h.nm.nilOk⟩
end
section
open Go.RowKit

theorem OwnTy.set5 {B b:Nat}{w:World}{v:TyV}{t:Ty}{u0 u1 u2 u3 u4:Value}(h:OwnTy B w v t)(hb:b<B):
  OwnTy B (((((w.setCell ⟨b,0,none⟩ u0).setCell ⟨b,1,none⟩ u1).setCell ⟨b,2,none⟩ u2).setCell ⟨b,3,none⟩ u3).setCell ⟨b,4,none⟩ u4) v t:=((((h.setLow hb).setLow hb).setLow hb).setLow hb).setLow hb
theorem below_set5 {W W':World}{b:Nat}{u0 u1 u2 u3 u4:Value}(h:Below W.heap.size W W')(hb:W.heap.size≤b):
  Below W.heap.size W (((((W'.setCell ⟨b,0,none⟩ u0).setCell ⟨b,1,none⟩ u1).setCell ⟨b,2,none⟩ u2).setCell ⟨b,3,none⟩ u3).setCell ⟨b,4,none⟩ u4):=below_set' (below_set' (below_set' (below_set' (below_set' h hb) hb) hb) hb) hb
def TyBox (w:World)(b:Nat)(k:Int)(vr vn:Value)(pt ph:ByteArray):Prop:=w.heap[b]? =some (.cells #[.int .i64 k,vr,vn,.string pt,.string ph] 27 (0,0))
theorem TyBox.below {w w':World}{b:Nat}{k:Int}{vr vn:Value}{pt ph:ByteArray}(h:TyBox w b k vr vn pt ph)(hb:Below w.heap.size w w'):TyBox w' b k vr vn pt ph:=(hb.block b (Array.getElem?_eq_some_iff.1 h).1).trans h
theorem TyBox.set {w:World}{b c j:Nat}{u:Value}{k:Int}{vr vn:Value}{pt ph:ByteArray}(h:TyBox w b k vr vn pt ph)(hne:b≠c):TyBox (w.setCell ⟨c,j,none⟩ u) b k vr vn pt ph:=(Below.heap_setCell w ⟨c,j,none⟩ u b hne).trans h
theorem TyBox.lt {w:World}{b:Nat}{k:Int}{vr vn:Value}{pt ph:ByteArray}(h:TyBox w b k vr vn pt ph):b<w.heap.size:=(Array.getElem?_eq_some_iff.1 h).1
theorem iCopy_any (v:TyV)(t:Ty)(w:World)(h:HasTy w v t)(hk:NilTy v)(h1:t.rg.length≤1048576)(h2:t.nm.length≤1048576):
  Calls Tryz.prog 38 #[v.val] w fun e w'=>∃v':TyV,e=.returned v'.val∧OwnTy w.heap.size w' v' t∧Below w.heap.size w w':=by
 obtain⟨k,rg,nm,pt,ph⟩:=t
 obtain⟨k',vr,vn,pt',ph'⟩:=v
 obtain⟨rfl,hr,hn,rfl,rfl⟩:=h
 obtain⟨hk1,hk2⟩:=hk
 dsimp only at hr hn hk1 hk2 h1 h2 ⊢
 have HR:=hid (fun W (hb:Below w.heap.size w W)=>cloneG_any vr rg W (HasR.below hr hb) hk1 h1)
 have HN:=hid (fun W (hb:Below w.heap.size w W)=>cloneS_any vn nm W (hn.below hb) hk2 h2)
 have HB0:=hid (Below.refl w.heap.size w)
 clear hr hn h1 h2 hk1 hk2
 go_enter Tryz.func38,Tryz.ntmps38
 go_wp2_with fail
 refine(HR.out _ (below_al (below_al HB0.out _) _)).mono ?_
 rintro e w1 ⟨vr',rfl,hown,hb1⟩
 obtain⟨D1,n1,c1,rfl⟩:∃A n c,vr'=.slice A n c:=by obtain⟨A,c,hv,_⟩:=RowR.hasG hown;exact⟨A,_,c,hv⟩
 have HB1:=hid (below_step (below_al (below_al HB0.out _) _) hb1)
 have HO:=hid hown
 have R1:TyBox w1 (w.heap.size+1) 0 (.slice none 0 0) (.slice none 0 0) ⟨#[]⟩ ⟨#[]⟩:=(hb1.block _ (by simp)).trans (heap_alloc_new' _ _ (by simp))
 have A1:TyBox w1 w.heap.size k' vr vn pt' ph':=(hb1.block _ (by simp;omega)).trans (by rw [Below.heap_alloc _ _ _ (by simp)];exact heap_alloc_new' _ _ rfl)
 have hz1:w.heap.size+2≤w1.heap.size:=by have:=hb1.size;simpa using this
 obtain⟨⟨x0,x1,x2,x3,x4⟩,f0,f1,f2,f3,f4⟩:=five A1
 clear hown hb1
 go_wp2_with fail
 have X2:=set5 A1 1 (.slice D1 n1 c1)
 have hB2:Below w.heap.size w (w1.setCell ⟨w.heap.size,1,none⟩ (.slice D1 n1 c1)):=below_set' HB1.out (by omega)
 refine(HN.out _ hB2).mono ?_
 rintro e w2 ⟨vn',rfl,hown2,hb2⟩
 obtain⟨D2,n2,c2,rfl⟩:∃A n c,vn'=.slice A n c:=by obtain⟨A,c,hv,_⟩:=Row.has hown2;exact⟨A,_,c,hv⟩
 have HB2:=hid (below_step hB2 hb2)
 have hz2:w1.heap.size≤w2.heap.size:=by have:=hb2.size;simpa using this
 have A3:TyBox w2 w.heap.size k' (.slice D1 n1 c1) vn pt' ph':=(hb2.block _ (by simp;omega)).trans X2
 have R3:TyBox w2 (w.heap.size+1) 0 (.slice none 0 0) (.slice none 0 0) ⟨#[]⟩ ⟨#[]⟩:=(hb2.block _ (by simp;omega)).trans ((Below.heap_setCell w1 _ _ _ (by simp)).trans R1)
 have HO2:Hid (OwnTy (w.heap.size+2) w2 ⟨k',.slice D1 n1 c1,.slice D2 n2 c2,pt',ph'⟩ ⟨k',rg,nm,pt',ph'⟩):=hid ⟨rfl,
  RowR.below (ownsRow_setCell_other (RowR.mono HO.out (by simp)) (a:=⟨w.heap.size,1,none⟩) (fun e=>by have:=(RowR.lt HO.out e).1;simp at this;omega) _) hb2,hown2.mono (by simpa using hz1),rfl,rfl,fun j h1 h2=>by
   have a1:=(RowR.lt HO.out h1).2;have a2:=(hown2.lt h2).1;simp at a2;omega⟩
 clear R1 A1 X2 hown2 hb2 x0 x1 x2 x3 x4 f0 f1 f2 f3 f4 HO
 obtain⟨⟨y0,y1,y2,y3,y4⟩,g0,g1,g2,g3,g4⟩:=five A3
 obtain⟨⟨RR0,RR1,RR2,RR3,RR4⟩,r0,r1,r2,r3,r4⟩:=five R3
 have HB3:=HB2.out
 go_wp2
 refine bodyPost_ret (v:=.agg #[.int .i64 k',.slice D1 n1 c1,.slice D2 n2 c2,.string pt',.string ph']) (by simp [results,Tryz.results38,go_sem,r0,r1,r2,r3,r4,y0,y1,y2,y3,y4,RR0,RR1,RR2,RR3,RR4]) rfl ?_
 refine⟨⟨k',.slice D1 n1 c1,.slice D2 n2 c2,pt',ph'⟩,rfl,?_,?_⟩
 ·exact((HO2.out.setLow (by omega)).set5 (by omega)).mono (by omega)
 ·exact below_set5 (below_set' HB3 (by omega)) (by omega)
end
end Go.Proofs.YtecladbckadijaaGreatDoor
