/- MERGED for a claim. -/
import Derived.Test.YtecladbckadijaaGreatDoorTyK
import Derived.Test.YtecladbckadijaaGreatDoorRngO
set_option linter.unusedVariables false
set_option linter.unusedSimpArgs false
set_option maxRecDepth 100000
set_option maxHeartbeats 16000000
namespace Go.Proofs.YtecladbckadijaaGreatDoor
open Go.Lib (hid)
section
open Go.RowKit

noncomputable def mayB (t:Ty):Bool:=isTyB t&&(decide (t.k=1) || decide (t.k=2))
noncomputable def nothB (t:Ty)(r:List Rg):Bool:=decide ((meetS t.rg r).length=0)&&decide (0<t.rg.length+r.length)
noncomputable def narT (t:Ty)(r:List Rg):Ty:={ t with rg:=meetS t.rg r }
noncomputable def narrT (t:Ty)(r:List Rg):Ty×Bool:=if (mayB t&&areB r)=true then(if (nothB t r || !isTyB (narT t r))=true then(t,false)else(narT t r,true))else(t,false)
theorem narr_a {t:Ty}{r:List Rg}(h:mayB t=false):narrT t r=(t,false):=by unfold narrT;rw [h];rfl
theorem narr_b {t:Ty}{r:List Rg}(h:areB r=false):narrT t r=(t,false):=by unfold narrT;rw [h,Bool.and_false];rfl
theorem narr_c {t:Ty}{r:List Rg}(h:nothB t r=true):narrT t r=(t,false):=by unfold narrT;rw [h,Bool.true_or];split<;>rfl
theorem narr_d {t:Ty}{r:List Rg}(h:isTyB (narT t r)=false):narrT t r=(t,false):=by unfold narrT;rw [h,Bool.not_false,Bool.or_true];split<;>rfl
theorem narr_e {t:Ty}{r:List Rg}(h1:mayB t=true)(h2:areB r=true)(h3:nothB t r=false)(h4:isTyB (narT t r)=true):narrT t r=(narT t r,true):=by unfold narrT;rw [h1,h2,h3,h4];rfl
theorem may_are {t:Ty}(h:mayB t=true):areB t.rg=true:=by
 unfold mayB at h
 obtain⟨k,rg,nm,pt,ph⟩:=t
 dsimp only at h ⊢
 cases ha:areB rg with
 | true=>rfl
 | false =>
  by_cases k1:k=1
  ·subst k1;rw [isTy_1,ha]at h;cases h
  ·by_cases k2:k=2
   ·subst k2;rw [isTy_2,ha]at h;cases h
   ·simp [k1,k2]at h
theorem are_len {l:List Rg}(h:areB l=true):l.length≤6:=by
 by_cases hh:Are l
 ·exact hh.1
 ·rw [areB_no hh]at h;cases h
theorem mul36 {a b:Nat}(h1:a≤6)(h2:b≤6):a*b≤274877906944:=Nat.le_trans (Nat.mul_le_mul h1 h2) (by omega)
def MayK (K:Value)(v:TyV)(b:Bool)(w:World):Prop:=
 (∀W,Below w.heap.size w W→Calls Tryz.prog 19 #[v.val] W fun e w'=>e=.returned K∧Below W.heap.size W w')→
 Calls Tryz.prog 39 #[v.val] w fun e w'=>e=.returned (.bool b)∧Below w.heap.size w w'
theorem may_nil (k:Int)(A A':Option Addr)(n c m c':Nat)(pt ph:ByteArray)(w:World):MayK (.nilIface) ⟨k,.slice A n c,.slice A' m c',pt,ph⟩ false w:=by
 intro hC
 have HC:=hid hC
 have T0:=ta_nil_int
 have T1:=ta_nil_text
 have HB0:=hid (below_al (Below.refl w.heap.size w) (.cells #[.int .i64 k,.slice A n c,.slice A' m c',.string pt,.string ph] 27))
 clear hC
 go_enter Tryz.func39,Tryz.ntmps39
 go_wp2_with (first|(go_at_call 19;refine(HC.out _ HB0.out).mono ?_;rintro e w1 ⟨rfl,hb1⟩;have HB1:=hid (below_step HB0.out hb1)))
 go_ret
 exact⟨rfl,HB1.out⟩
theorem may_int (k:Int)(A A':Option Addr)(n c m c':Nat)(pt ph:ByteArray)(w:World):MayK (.iface 49 (.agg #[.slice A n c])) ⟨k,.slice A n c,.slice A' m c',pt,ph⟩ true w:=by
 intro hC
 have HC:=hid hC
 have T0:=ta_int_int
 have T1:=ta_int_text
 have HB0:=hid (below_al (Below.refl w.heap.size w) (.cells #[.int .i64 k,.slice A n c,.slice A' m c',.string pt,.string ph] 27))
 clear hC
 go_enter Tryz.func39,Tryz.ntmps39
 go_wp2_with (first|(go_at_call 19;refine(HC.out _ HB0.out).mono ?_;rintro e w1 ⟨rfl,hb1⟩;have HB1:=hid (below_step HB0.out hb1)))
 go_ret
 exact⟨rfl,HB1.out⟩
theorem may_text (k:Int)(A A':Option Addr)(n c m c':Nat)(pt ph:ByteArray)(w:World):MayK (.iface 52 (.agg #[.slice A n c,.string pt])) ⟨k,.slice A n c,.slice A' m c',pt,ph⟩ true w:=by
 intro hC
 have HC:=hid hC
 have T0:=ta_text_int
 have T1:=ta_text_text
 have HB0:=hid (below_al (Below.refl w.heap.size w) (.cells #[.int .i64 k,.slice A n c,.slice A' m c',.string pt,.string ph] 27))
 clear hC
 go_enter Tryz.func39,Tryz.ntmps39
 go_wp2_with (first|(go_at_call 19;refine(HC.out _ HB0.out).mono ?_;rintro e w1 ⟨rfl,hb1⟩;have HB1:=hid (below_step HB0.out hb1)))
 go_ret
 exact⟨rfl,HB1.out⟩
theorem may_bool (k:Int)(A A':Option Addr)(n c m c':Nat)(pt ph:ByteArray)(w:World):MayK (.iface 55 (.agg #[])) ⟨k,.slice A n c,.slice A' m c',pt,ph⟩ false w:=by
 intro hC
 have HC:=hid hC
 have T0:=ta_bool_int
 have T1:=ta_bool_text
 have HB0:=hid (below_al (Below.refl w.heap.size w) (.cells #[.int .i64 k,.slice A n c,.slice A' m c',.string pt,.string ph] 27))
 clear hC
 go_enter Tryz.func39,Tryz.ntmps39
 go_wp2_with (first|(go_at_call 19;refine(HC.out _ HB0.out).mono ?_;rintro e w1 ⟨rfl,hb1⟩;have HB1:=hid (below_step HB0.out hb1)))
 go_ret
 exact⟨rfl,HB1.out⟩
theorem may_enum (k:Int)(A A':Option Addr)(n c m c':Nat)(pt ph:ByteArray)(w:World):MayK (.iface 58 (.agg #[.slice A' m c'])) ⟨k,.slice A n c,.slice A' m c',pt,ph⟩ false w:=by
 intro hC
 have HC:=hid hC
 have T0:=ta_enum_int
 have T1:=ta_enum_text
 have HB0:=hid (below_al (Below.refl w.heap.size w) (.cells #[.int .i64 k,.slice A n c,.slice A' m c',.string pt,.string ph] 27))
 clear hC
 go_enter Tryz.func39,Tryz.ntmps39
 go_wp2_with (first|(go_at_call 19;refine(HC.out _ HB0.out).mono ?_;rintro e w1 ⟨rfl,hb1⟩;have HB1:=hid (below_step HB0.out hb1)))
 go_ret
 exact⟨rfl,HB1.out⟩
theorem may_ref (k:Int)(A A':Option Addr)(n c m c':Nat)(pt ph:ByteArray)(w:World):MayK (.iface 61 (.agg #[.string ph])) ⟨k,.slice A n c,.slice A' m c',pt,ph⟩ false w:=by
 intro hC
 have HC:=hid hC
 have T0:=ta_ref_int
 have T1:=ta_ref_text
 have HB0:=hid (below_al (Below.refl w.heap.size w) (.cells #[.int .i64 k,.slice A n c,.slice A' m c',.string pt,.string ph] 27))
 clear hC
 go_enter Tryz.func39,Tryz.ntmps39
 go_wp2_with (first|(go_at_call 19;refine(HC.out _ HB0.out).mono ?_;rintro e w1 ⟨rfl,hb1⟩;have HB1:=hid (below_step HB0.out hb1)))
 go_ret
 exact⟨rfl,HB1.out⟩
theorem may_flag (k:Int)(A A':Option Addr)(n c m c':Nat)(pt ph:ByteArray)(w:World):MayK (.iface 63 (.agg #[])) ⟨k,.slice A n c,.slice A' m c',pt,ph⟩ false w:=by
 intro hC
 have HC:=hid hC
 have T0:=ta_flag_int
 have T1:=ta_flag_text
 have HB0:=hid (below_al (Below.refl w.heap.size w) (.cells #[.int .i64 k,.slice A n c,.slice A' m c',.string pt,.string ph] 27))
 clear hC
 go_enter Tryz.func39,Tryz.ntmps39
 go_wp2_with (first|(go_at_call 19;refine(HC.out _ HB0.out).mono ?_;rintro e w1 ⟨rfl,hb1⟩;have HB1:=hid (below_step HB0.out hb1)))
 go_ret
 exact⟨rfl,HB1.out⟩
theorem may_any (v:TyV)(t:Ty)(w:World)(h:HasTy w v t)(hc:CapN v.vn)(hs:TySz t):
  Calls Tryz.prog 39 #[v.val] w fun e w'=>e=.returned (.bool (mayB t))∧Below w.heap.size w w':=by
 have hC:=fun W (hb:Below w.heap.size w W)=>kindOf_any v t W (h.below hb) hc hs
 obtain⟨A,c,h1,-⟩:=id h.rg
 obtain⟨A',c',h2,-⟩:=id h.nm
 unfold mayB
 cases hq:isTyB t with
 | false =>
  rw [hq]at hC
  obtain⟨k,vr,vn,pt,ph⟩:=v
  obtain rfl:vr=_:=h1
  obtain rfl:vn=_:=h2
  exact may_nil _ _ _ _ _ _ _ _ _ _ hC
 | true =>
  rw [hq]at hC
  obtain⟨k,rg,nm,pt,ph⟩:=t
  obtain⟨k',vr,vn,pt',ph'⟩:=v
  obtain⟨rfl,hr,hn,rfl,rfl⟩:=h
  dsimp only at hr hn hC h1 h2 ⊢
  subst h1 h2
  by_cases k1:k'=1
  ·subst k1;exact may_int _ _ _ _ _ _ _ _ _ _ hC
  by_cases k2:k'=2
  ·subst k2;exact may_text _ _ _ _ _ _ _ _ _ _ hC
  by_cases k3:k'=3
  ·subst k3;exact may_bool _ _ _ _ _ _ _ _ _ _ hC
  by_cases k4:k'=4
  ·subst k4;exact may_enum _ _ _ _ _ _ _ _ _ _ hC
  by_cases k5:k'=5
  ·subst k5;exact may_ref _ _ _ _ _ _ _ _ _ _ hC
  by_cases k6:k'=6
  ·subst k6;exact may_flag _ _ _ _ _ _ _ _ _ _ hC
  unfold isTyB validB at hq
  simp [k1,k2,k3,k4,k5,k6]at hq
theorem iNarrow_any (v:TyV)(t:Ty)(u:Value)(r:List Rg)(w:World)(h:HasTy w v t)(hc:CapN v.vn)(hk:NilTy v)(hs:TySz t)(h1:t.rg.length≤1048576)(h2:t.nm.length≤1048576)(hr:HasG w u r)(hr1:r.length≤1048576):
  Calls Tryz.prog 13 #[v.val,u] w fun e w'=>∃v':TyV,e=.returned (.tuple #[v'.val,.bool (narrT t r).2])∧OwnTy w.heap.size w' v' (narrT t r).1∧Below w.heap.size w w':=by
 have HCP:=hid (fun W (hb:Below w.heap.size w W)=>iCopy_any v t W (h.below hb) hk h1 h2)
 have HMY:=hid (fun W (hb:Below w.heap.size w W)=>may_any v t W (h.below hb) hc hs)
 have HAR:=hid (fun W (hb:Below w.heap.size w W)=>iAre_any u r W (HasR.below hr hb))
 have HMT:=hid (fun(a1:areB t.rg=true) (a2:areB r=true) W (hb:Below w.heap.size w W)=>iMeet_any v.vr u t.rg r W (HasR.below h.rg hb) (HasR.below hr hb) (by have:=are_len a1;omega) hr1 (mul36 (are_len a1) (are_len a2)))
 have HIS:=hid (fun v2 W (h2:HasTy W v2 (narT t r)) (hc2:CapN v2.vn)=>iIsTy_any v2 (narT t r) W h2 hc2 hs)
 have HMA:=hid (may_are (t:=t))
 have HNA:=hid (@narr_a t r)
 have HNB:=hid (@narr_b t r)
 have HNC:=hid (@narr_c t r)
 have HND:=hid (@narr_d t r)
 have HNE:=hid (@narr_e t r)
 have HNO:Hid (nothB t r=(decide ((meetS t.rg r).length=0)&&decide (0<t.rg.length+r.length))):=hid rfl
 have HT2:Hid (narT t r={ t with rg:=meetS t.rg r }):=hid rfl
 have HMB:Hid (mayB t=(isTyB t&&(decide (t.k=1) || decide (t.k=2)))):=hid rfl
 obtain⟨F,d,rfl,-⟩:=id hr
 obtain⟨A,c,h3,-⟩:=id h.rg
 obtain⟨A',c',h4,-⟩:=id h.nm
 obtain⟨Z,hZ⟩:∃Z,Z=narrT t r:=⟨_,rfl⟩
 obtain⟨a,ha⟩:∃a,a=mayB t:=⟨_,rfl⟩
 obtain⟨b,hb⟩:∃b,b=areB r:=⟨_,rfl⟩
 obtain⟨f,hf⟩:∃f,f=isTyB (narT t r):=⟨_,rfl⟩
 obtain⟨t2,ht2⟩:∃t2,t2=narT t r:=⟨_,rfl⟩
 obtain⟨M,hM⟩:∃M,M=meetS t.rg r:=⟨_,rfl⟩
 obtain⟨no,hno⟩:∃no,no=nothB t r:=⟨_,rfl⟩
 rw [←hZ]at HNA HNB HNC HND HNE ⊢
 rw [←ha]at HNA HNE HMA HMB
 rw [←hb]at HNB HNE HAR HMT
 rw [←hno]at HNC HNE HNO
 rw [←hM]at HMT HT2 HNO
 rw [←ht2]at HND HNE HIS HT2 hf
 rw [←hf]at HND HNE HIS
 rw [←ha]at HMY
 obtain⟨k,rg,nm,pt,ph⟩:=t
 obtain⟨k',vr,vn,pt',ph'⟩:=v
 obtain⟨rfl,hg,hn,rfl,rfl⟩:=h
 clear hZ ha hb hf ht2 hM hno
 dsimp only at*
 subst h3 h4
 generalize r.length=q at*
 generalize hgn:rg.length=n at*
 generalize hnm:nm.length=m at*
 have HB0:=hid (Below.refl w.heap.size w)
 clear hr hg hn hc hk hs
 go_enter Tryz.func13,Tryz.ntmps13
 go_wp2_with fail
 refine(HCP.out _ (below_al (below_al HB0.out (.cells #[.int .i64 k',.slice A n c,.slice A' m c',.string pt',.string ph'] 27)) (.cells #[.int .i64 0,.slice none 0 0,.slice none 0 0,.string ⟨#[]⟩,.string ⟨#[]⟩] 27))).mono ?_
 rintro e w1 ⟨v1,rfl,hown,hb1⟩
 have HB1:=hid (below_step (below_al (below_al HB0.out (.cells #[.int .i64 k',.slice A n c,.slice A' m c',.string pt',.string ph'] 27)) (.cells #[.int .i64 0,.slice none 0 0,.slice none 0 0,.string ⟨#[]⟩,.string ⟨#[]⟩] 27)) hb1)
 have R1:TyBox w1 (w.heap.size+1) 0 (.slice none 0 0) (.slice none 0 0) ⟨#[]⟩ ⟨#[]⟩:=(hb1.block _ (by simp)).trans (heap_alloc_new' _ _ (by simp))
 have A1:TyBox w1 w.heap.size k' (.slice A n c) (.slice A' m c') pt' ph':=(hb1.block _ (by simp;omega)).trans (by rw [Below.heap_alloc _ _ _ (by simp)];exact heap_alloc_new' _ _ rfl)
 have hz1:w.heap.size+2≤w1.heap.size:=by have:=hb1.size;simpa using this
 have hz2:w.heap.size<w1.heap.size:=by omega
 have hz3:w.heap.size+1<w1.heap.size:=by omega
 have HO:=hid (hown.mono (B':=w.heap.size+2) (by simp))
 have HOW':Hid (∀j,TyV.own v1 j→j<w1.heap.size):=hid fun j hj=>(hown.lt hj).2
 obtain⟨D1,n1,c1,g1⟩:∃A n c,v1.vr=.slice A n c:=by obtain⟨A,c,hv,_⟩:=RowR.hasG hown.rg;exact⟨A,_,c,hv⟩
 obtain⟨D2,n2,c2,g2⟩:∃A n c,v1.vn=.slice A n c:=by obtain⟨A,c,hv,_⟩:=Row.has hown.nm;exact⟨A,_,c,hv⟩
 have g3:v1.k=k':=hown.k
 have g4:v1.pt=pt':=hown.pt
 have g5:v1.ph=ph':=hown.ph
 have HCN:=hid hown.nm.capN
 obtain⟨k1,vr1,vn1,p1,q1⟩:=v1
 dsimp only at g1 g2 g3 g4 g5 HCN
 subst g1 g2 g3 g4 g5
 have HOW:=HOW'
 have HH:Hid (∀W,Below (w1.alloc (.cells #[.int .i64 k1,.slice D1 n1 c1,.slice D2 n2 c2,.string p1,.string q1] 27)).heap.size (w1.alloc (.cells #[.int .i64 k1,.slice D1 n1 c1,.slice D2 n2 c2,.string p1,.string q1] 27)) W→
   TyBox W w.heap.size k1 (.slice A n c) (.slice A' m c') p1 q1∧TyBox W (w.heap.size+1) 0 (.slice none 0 0) (.slice none 0 0) ⟨#[]⟩ ⟨#[]⟩∧TyBox W w1.heap.size k1 (.slice D1 n1 c1) (.slice D2 n2 c2) p1 q1∧OwnTy (w.heap.size+2) W ⟨k1,.slice D1 n1 c1,.slice D2 n2 c2,p1,q1⟩ ⟨k1,rg,nm,p1,q1⟩∧Below w.heap.size w W):=hid fun W hb=>
  ⟨(A1.below (below_al (Below.refl _ _) _)).below hb,(R1.below (below_al (Below.refl _ _) _)).below hb,TyBox.below (heap_alloc_new w1 _) hb,(HO.out.below (below_al (Below.refl _ _) _)).below hb,below_step (below_al HB1.out _) hb⟩
 obtain⟨⟨x0,x1,x2,x3,x4⟩,-⟩:=five A1
 have HR1:=hid R1
 have HO1:=hid HO.out
 clear hown hb1 R1 A1 HO
 have HOLT:Hid (∀j,TyV.own ⟨k1,.slice D1 n1 c1,.slice D2 n2 c2,p1,q1⟩ j→j≠w1.heap.size):=hid (by
  intro j hj e
  have:=HOW.out j hj;omega)
 go_wp2_with fail
 refine(HMY.out _ (HH.out _ (Below.refl _ _)).2.2.2.2).mono ?_
 rintro e w2 ⟨rfl,hb2⟩
 clear x0 x1 x2 x3 x4
 cases a
 ·
  have HL:Hid (Z=(⟨k1,rg,nm,p1,q1⟩,false)):=hid (HNA.out (by first|rfl|trivial))
  obtain⟨hA,hR,hN,hO,hW⟩:=HH.out _ hb2
  obtain⟨⟨y0,y1,y2,y3,y4⟩,-⟩:=five hN
  obtain⟨⟨RR0,RR1,RR2,RR3,RR4⟩,r0,r1,r2,r3,r4⟩:=five hR
  have HO2:=hid hO
  have HW:=hid hW
  have hq1:w.heap.size<w2.heap.size:=hA.lt
  have hq2:w.heap.size+1<w2.heap.size:=hR.lt
  clear hA hR hN hO hW
  go_wp2
  refine bodyPost_ret (v:=.tuple #[.agg #[.int .i64 k1,.slice D1 n1 c1,.slice D2 n2 c2,.string p1,.string q1],.bool false]) (by simp [results,Tryz.results13,go_sem,r0,r1,r2,r3,r4,RR0,RR1,RR2,RR3,RR4,y0,y1,y2,y3,y4]) rfl ?_
  exact⟨⟨k1,.slice D1 n1 c1,.slice D2 n2 c2,p1,q1⟩,by rw [HL.out],by rw [HL.out];exact(HO2.out.set5 (by omega)).mono (by omega),below_set5 HW.out (by omega)⟩
 ·
  go_wp2_with fail
  refine(HAR.out _ (HH.out _ hb2).2.2.2.2).mono ?_
  rintro e w3 ⟨rfl,hb3⟩
  cases b
  ·
   have HL:Hid (Z=(⟨k1,rg,nm,p1,q1⟩,false)):=hid (HNB.out (by first|rfl|trivial))
   obtain⟨hA,hR,hN,hO,hW⟩:=HH.out _ (below_step hb2 hb3)
   obtain⟨⟨y0,y1,y2,y3,y4⟩,-⟩:=five hN
   obtain⟨⟨RR0,RR1,RR2,RR3,RR4⟩,r0,r1,r2,r3,r4⟩:=five hR
   have HO2:=hid hO
   have HW:=hid hW
   have hq1:w.heap.size<w3.heap.size:=hA.lt
   have hq2:w.heap.size+1<w3.heap.size:=hR.lt
   clear hA hR hN hO hW
   go_wp2
   refine bodyPost_ret (v:=.tuple #[.agg #[.int .i64 k1,.slice D1 n1 c1,.slice D2 n2 c2,.string p1,.string q1],.bool false]) (by simp [results,Tryz.results13,go_sem,r0,r1,r2,r3,r4,RR0,RR1,RR2,RR3,RR4,y0,y1,y2,y3,y4]) rfl ?_
   exact⟨⟨k1,.slice D1 n1 c1,.slice D2 n2 c2,p1,q1⟩,by rw [HL.out],by rw [HL.out];exact(HO2.out.set5 (by omega)).mono (by omega),below_set5 HW.out (by omega)⟩
  ·
   obtain⟨hA,hR,hN,hO,hW⟩:=HH.out _ (below_step hb2 hb3)
   obtain⟨⟨x0,x1,x2,x3,x4⟩,-⟩:=five hA
   have HF3:=hid (HH.out _ (below_step hb2 hb3))
   have hq1:w1.heap.size<w3.heap.size:=hN.lt
   clear hA hR hN hO hW
   go_wp2_with fail
   refine(HMT.out (HMA.out (by first|rfl|trivial)) (by first|rfl|trivial) _ HF3.out.2.2.2.2).mono ?_
   rintro e w4 ⟨vm,rfl,hm4,hb4⟩
   obtain⟨D5,c5,rfl⟩:∃A c,vm=.slice A M.length c:=by obtain⟨A,c,hv,_⟩:=RowR.hasG hm4;exact⟨A,c,hv⟩
   have hz4:w1.heap.size<w4.heap.size:=Nat.lt_of_lt_of_le hq1 hb4.size
   have HA4:=hid (HF3.out.1.below hb4)
   have HR4:=hid (HF3.out.2.1.below hb4)
   have HN4:=hid (HF3.out.2.2.1.below hb4)
   have HO4:=hid (HF3.out.2.2.2.1.below hb4)
   have HB4:=hid (below_step HF3.out.2.2.2.2 hb4)
   have HM4:=hid hm4
   have hq3:w1.heap.size<w3.heap.size:=hq1
   have HLT:=hid (And.intro (fun j (hj:(Value.slice D5 M.length c5).ownBlock=some j)=>RowR.lt hm4 hj) (fun j (hj:TyV.own ⟨k1,.slice D1 n1 c1,.slice D2 n2 c2,p1,q1⟩ j)=>HF3.out.2.2.2.1.lt hj))
   clear hm4 hb4 x0 x1 x2 x3 x4
   have hA5:TyBox (w4.setCell ⟨w1.heap.size,1,none⟩ (.slice D5 M.length c5)) w.heap.size k1 (.slice A n c) (.slice A' m c') p1 q1:=HA4.out.set (by omega)
   have hR5:TyBox (w4.setCell ⟨w1.heap.size,1,none⟩ (.slice D5 M.length c5)) (w.heap.size+1) 0 (.slice none 0 0) (.slice none 0 0) ⟨#[]⟩ ⟨#[]⟩:=HR4.out.set (by omega)
   have hN5:TyBox (w4.setCell ⟨w1.heap.size,1,none⟩ (.slice D5 M.length c5)) w1.heap.size k1 (.slice D5 M.length c5) (.slice D2 n2 c2) p1 q1:=set5 HN4.out 1 (.slice D5 M.length c5)
   have HB5:Hid (Below w.heap.size w (w4.setCell ⟨w1.heap.size,1,none⟩ (.slice D5 M.length c5))):=hid (below_set' HB4.out (by omega))
   have HNEQ:Hid (∀j,TyV.own ⟨k1,.slice D1 n1 c1,.slice D2 n2 c2,p1,q1⟩ j→j≠w1.heap.size):=hid fun j hj e=>HOLT.out j hj e
   have HT5:Hid (OwnTy (w.heap.size+2) (w4.setCell ⟨w1.heap.size,1,none⟩ (.slice D5 M.length c5)) ⟨k1,.slice D5 M.length c5,.slice D2 n2 c2,p1,q1⟩ t2):=hid (by
    rw [HT2.out]
    exact⟨rfl,ownsRow_setCell_other (RowR.mono HM4.out (by omega)) (a:=⟨w1.heap.size,1,none⟩) (fun e=>by have:=(HLT.out.1 _ e).1;simp at this;omega) _,ownsRow_setCell_other HO4.out.nm (a:=⟨w1.heap.size,1,none⟩) (fun e=>HNEQ.out _ (.inr e) rfl) _,rfl,rfl,fun j h1 h2=>by
     have a1:=(HLT.out.1 _ h1).1;have a2:=(HLT.out.2 j (.inr h2)).2;omega⟩)
   have HR5:=hid hR5
   have HN5:=hid hN5
   have hz5:w1.heap.size<(w4.setCell ⟨w1.heap.size,1,none⟩ (.slice D5 M.length c5)).heap.size:=by simpa using hz4
   generalize M.length=z at*
   obtain⟨⟨x0,x1,x2,x3,x4⟩,-⟩:=five HA4.out
   obtain⟨⟨y0,y1,y2,y3,y4⟩,yf0,yf1,yf2,yf3,yf4⟩:=five HN4.out
   have hw:IntKind.i64.wrap ((n:Int)+(q:Int))=(n:Int)+(q:Int):=by rw [IntKind.wrap_i64];omega
   by_cases z0:z=0
   ·
    subst z0
    by_cases s0:0<n+q
    ·
     have e1:decide ((0:Int)<(n:Int)+(q:Int))=true:=by simp;omega
     have e2:(0:Int)<(n:Int)+(q:Int):=by omega
     have HL:Hid (Z=(⟨k1,rg,nm,p1,q1⟩,false)):=hid (HNC.out (by rw [HNO.out];simp;omega))
     go_wp2_with fail
     refine(HCP.out _ HB5.out).mono ?_
     rintro e w8 ⟨v8,rfl,hown8,hb8⟩
     obtain⟨D3,n3,c3,g1⟩:∃A n c,v8.vr=.slice A n c:=by obtain⟨A,c,hv,_⟩:=RowR.hasG hown8.rg;exact⟨A,_,c,hv⟩
     obtain⟨D4,n4,c4,g2⟩:∃A n c,v8.vn=.slice A n c:=by obtain⟨A,c,hv,_⟩:=Row.has hown8.nm;exact⟨A,_,c,hv⟩
     obtain⟨k8,vr8,vn8,p8,q8⟩:=v8
     dsimp only at g1 g2
     subst g1 g2
     have R8:=HR5.out.below hb8
     have HB8:=hid (below_step HB5.out hb8)
     have hq8:w.heap.size+2≤w8.heap.size:=by have:=hb8.size;(try simp at this);omega
     have HO8:=hid (hown8.mono (B':=w.heap.size+2) (by(try simp);omega))
     obtain⟨⟨RR0,RR1,RR2,RR3,RR4⟩,r0,r1,r2,r3,r4⟩:=five R8
     clear hown8 hb8 R8
     go_wp2
     refine bodyPost_ret (v:=.tuple #[.agg #[.int .i64 k8,.slice D3 n3 c3,.slice D4 n4 c4,.string p8,.string q8],.bool false]) (by simp [results,Tryz.results13,go_sem,r0,r1,r2,r3,r4,RR0,RR1,RR2,RR3,RR4]) rfl ?_
     exact⟨⟨k8,.slice D3 n3 c3,.slice D4 n4 c4,p8,q8⟩,by rw [HL.out],by rw [HL.out];exact(HO8.out.set5 (by omega)).mono (by omega),below_set5 HB8.out (by omega)⟩
    ·
     have e1:decide ((0:Int)<(n:Int)+(q:Int))=false:=by simp;omega
     have e2:¬(0:Int)<(n:Int)+(q:Int):=by omega
     have HNF:Hid (no=false):=hid (by rw [HNO.out];simp;omega)
     go_wp2_with fail
     refine(HIS.out ⟨k1,.slice D5 0 c5,.slice D2 n2 c2,p1,q1⟩ _ HT5.out.has HCN.out).mono ?_
     rintro e w6 ⟨rfl,hb6⟩
     have HB6:=hid (below_step HB5.out hb6)
     have A6:=hA5.below hb6
     have HR6:=hid (HR5.out.below hb6)
     have N6:=HN5.out.below hb6
     have HT6:=hid (HT5.out.below hb6)
     have hq6:w1.heap.size<w6.heap.size:=N6.lt
     clear hb6 x0 x1 x2 x3 x4 y0 y1 y2 y3 y4 yf0 yf1 yf2 yf3 yf4
     cases f
     ·
      obtain⟨⟨x0,x1,x2,x3,x4⟩,-⟩:=five A6
      have HL:Hid (Z=(⟨k1,rg,nm,p1,q1⟩,false)):=hid (HND.out (by first|rfl|trivial))
      go_wp2_with fail
      refine(HCP.out _ HB6.out).mono ?_
      rintro e w8 ⟨v8,rfl,hown8,hb8⟩
      obtain⟨D3,n3,c3,g1⟩:∃A n c,v8.vr=.slice A n c:=by obtain⟨A,c,hv,_⟩:=RowR.hasG hown8.rg;exact⟨A,_,c,hv⟩
      obtain⟨D4,n4,c4,g2⟩:∃A n c,v8.vn=.slice A n c:=by obtain⟨A,c,hv,_⟩:=Row.has hown8.nm;exact⟨A,_,c,hv⟩
      obtain⟨k8,vr8,vn8,p8,q8⟩:=v8
      dsimp only at g1 g2
      subst g1 g2
      have R8:=HR6.out.below hb8
      have HB8:=hid (below_step HB6.out hb8)
      have hq8:w.heap.size+2≤w8.heap.size:=by have:=hb8.size;(try simp at this);omega
      have HO8:=hid (hown8.mono (B':=w.heap.size+2) (by(try simp);omega))
      obtain⟨⟨RR0,RR1,RR2,RR3,RR4⟩,r0,r1,r2,r3,r4⟩:=five R8
      clear hown8 hb8 R8
      go_wp2
      refine bodyPost_ret (v:=.tuple #[.agg #[.int .i64 k8,.slice D3 n3 c3,.slice D4 n4 c4,.string p8,.string q8],.bool false]) (by simp [results,Tryz.results13,go_sem,r0,r1,r2,r3,r4,RR0,RR1,RR2,RR3,RR4]) rfl ?_
      exact⟨⟨k8,.slice D3 n3 c3,.slice D4 n4 c4,p8,q8⟩,by rw [HL.out],by rw [HL.out];exact(HO8.out.set5 (by omega)).mono (by omega),below_set5 HB8.out (by omega)⟩
     ·
      have HL:Hid (Z=(t2,true)):=hid (HNE.out (by first|rfl|trivial) (by first|rfl|trivial) (by first|exact HNF.out|trivial) (by first|rfl|trivial))
      obtain⟨⟨y0,y1,y2,y3,y4⟩,-⟩:=five N6
      obtain⟨⟨RR0,RR1,RR2,RR3,RR4⟩,r0,r1,r2,r3,r4⟩:=five HR6.out
      go_wp2
      refine bodyPost_ret (v:=.tuple #[.agg #[.int .i64 k1,.slice D5 0 c5,.slice D2 n2 c2,.string p1,.string q1],.bool true]) (by simp [results,Tryz.results13,go_sem,r0,r1,r2,r3,r4,RR0,RR1,RR2,RR3,RR4,y0,y1,y2,y3,y4]) rfl ?_
      exact⟨⟨k1,.slice D5 0 c5,.slice D2 n2 c2,p1,q1⟩,by rw [HL.out],by rw [HL.out];exact(HT6.out.set5 (by omega)).mono (by omega),below_set5 HB6.out (by omega)⟩
   ·
    have e0:((z:Int)==0)=false:=by simp;omega
    have HNF:Hid (no=false):=hid (by rw [HNO.out];simp [z0])
    go_wp2_with fail
    refine(HIS.out ⟨k1,.slice D5 z c5,.slice D2 n2 c2,p1,q1⟩ _ HT5.out.has HCN.out).mono ?_
    rintro e w6 ⟨rfl,hb6⟩
    have HB6:=hid (below_step HB5.out hb6)
    have A6:=hA5.below hb6
    have HR6:=hid (HR5.out.below hb6)
    have N6:=HN5.out.below hb6
    have HT6:=hid (HT5.out.below hb6)
    have hq6:w1.heap.size<w6.heap.size:=N6.lt
    clear hb6 x0 x1 x2 x3 x4 y0 y1 y2 y3 y4 yf0 yf1 yf2 yf3 yf4
    cases f
    ·
     obtain⟨⟨x0,x1,x2,x3,x4⟩,-⟩:=five A6
     have HL:Hid (Z=(⟨k1,rg,nm,p1,q1⟩,false)):=hid (HND.out (by first|rfl|trivial))
     go_wp2_with fail
     refine(HCP.out _ HB6.out).mono ?_
     rintro e w8 ⟨v8,rfl,hown8,hb8⟩
     obtain⟨D3,n3,c3,g1⟩:∃A n c,v8.vr=.slice A n c:=by obtain⟨A,c,hv,_⟩:=RowR.hasG hown8.rg;exact⟨A,_,c,hv⟩
     obtain⟨D4,n4,c4,g2⟩:∃A n c,v8.vn=.slice A n c:=by obtain⟨A,c,hv,_⟩:=Row.has hown8.nm;exact⟨A,_,c,hv⟩
     obtain⟨k8,vr8,vn8,p8,q8⟩:=v8
     dsimp only at g1 g2
     subst g1 g2
     have R8:=HR6.out.below hb8
     have HB8:=hid (below_step HB6.out hb8)
     have hq8:w.heap.size+2≤w8.heap.size:=by have:=hb8.size;(try simp at this);omega
     have HO8:=hid (hown8.mono (B':=w.heap.size+2) (by(try simp);omega))
     obtain⟨⟨RR0,RR1,RR2,RR3,RR4⟩,r0,r1,r2,r3,r4⟩:=five R8
     clear hown8 hb8 R8
     go_wp2
     refine bodyPost_ret (v:=.tuple #[.agg #[.int .i64 k8,.slice D3 n3 c3,.slice D4 n4 c4,.string p8,.string q8],.bool false]) (by simp [results,Tryz.results13,go_sem,r0,r1,r2,r3,r4,RR0,RR1,RR2,RR3,RR4]) rfl ?_
     exact⟨⟨k8,.slice D3 n3 c3,.slice D4 n4 c4,p8,q8⟩,by rw [HL.out],by rw [HL.out];exact(HO8.out.set5 (by omega)).mono (by omega),below_set5 HB8.out (by omega)⟩
    ·
     have HL:Hid (Z=(t2,true)):=hid (HNE.out (by first|rfl|trivial) (by first|rfl|trivial) (by first|exact HNF.out|trivial) (by first|rfl|trivial))
     obtain⟨⟨y0,y1,y2,y3,y4⟩,-⟩:=five N6
     obtain⟨⟨RR0,RR1,RR2,RR3,RR4⟩,r0,r1,r2,r3,r4⟩:=five HR6.out
     go_wp2
     refine bodyPost_ret (v:=.tuple #[.agg #[.int .i64 k1,.slice D5 z c5,.slice D2 n2 c2,.string p1,.string q1],.bool true]) (by simp [results,Tryz.results13,go_sem,r0,r1,r2,r3,r4,RR0,RR1,RR2,RR3,RR4,y0,y1,y2,y3,y4]) rfl ?_
     exact⟨⟨k1,.slice D5 z c5,.slice D2 n2 c2,p1,q1⟩,by rw [HL.out],by rw [HL.out];exact(HT6.out.set5 (by omega)).mono (by omega),below_set5 HB6.out (by omega)⟩
end
section
theorem mem_ok {L:List Rg}(h:Nrm L)(n:Int):Mem L n↔MemOk L n:=by
 constructor
 ·rintro⟨x,hx,hn⟩;exact⟨x,hx,h.2 x hx,hn⟩
 ·rintro⟨x,hx,_,hn⟩;exact⟨x,hx,hn⟩
theorem norm_self {L:List Rg}(h:Nrm L):normS L=L:=(IsNrm.eq (show IsNrm L L from⟨h,mem_ok h,Nat.le_refl _⟩)).symm
theorem normS_mem (l:List Rg)(n:Int):Mem (normS l) n↔MemOk l n:=(normS_is l).2.1 n
theorem meets_mem {a b:List Rg}(ha:Nrm a)(hb:Nrm b)(n:Int):MemOk (meets a b) n↔Mem a n∧Mem b n:=by
 constructor
 ·rintro⟨z,hz,_,h1,h2⟩
  obtain⟨x,hx,hz⟩:=List.mem_flatMap.1 hz
  obtain⟨y,hy,rfl⟩:=List.mem_map.1 hz
  unfold Rg.cap at h1 h2
  simp only at h1 h2
  exact⟨⟨x,hx,by omega,by omega⟩,⟨y,hy,by omega,by omega⟩⟩
 ·rintro⟨⟨x,hx,x1,x2⟩,⟨y,hy,y1,y2⟩⟩
  have hxo:=ha.2 x hx
  have hyo:=hb.2 y hy
  refine⟨x.cap y,List.mem_flatMap.2 ⟨x,hx,List.mem_map.2 ⟨y,hy,rfl⟩⟩,?_,?_⟩
  ·unfold Rg.ok Rg.cap at*;simp only;omega
  ·unfold Rg.In Rg.cap;simp only;omega
theorem meetS_a' {a b:List Rg}(h:a=[]):meetS a b=normS b:=by subst h;rfl
theorem meetS_b' {a:List Rg}(h:a≠[]):meetS a []=normS a:=by unfold meetS;rw [if_neg (by simpa using h)];rfl
theorem meetS_c' {a b:List Rg}(h:a≠[])(h':b≠[]):meetS a b=normS (meets a b):=by unfold meetS;rw [if_neg (by simpa using h),if_neg (by simpa using h')]
theorem meet_mem {a b:List Rg}(ha:Nrm a)(hb:Nrm b)(h1:a≠[])(h2:b≠[])(n:Int):Mem (meetS a b) n↔Mem a n∧Mem b n:=by
 rw [meetS_c' h1 h2,normS_mem,meets_mem ha hb]
theorem inB_ne {l:List Rg}{n:Int}(h:l≠[]):inB l n=true↔Mem l n:=by
 constructor
 ·intro hi
  rcases Classical.em (Mem l n)with hm|hm
  ·exact hm
  ·rw [inB_no (fun h'=>h'.elim h hm)]at hi;cases hi
 ·intro hm;exact inB_yes (.inr hm)
theorem inB_nil (n:Int):inB [] n=true:=inB_yes (.inl rfl)
theorem meet_in {a b:List Rg}(ha:Nrm a)(hb:Nrm b)(hm:meetS a b≠[])(n:Int):inB (meetS a b) n=(inB a n&&inB b n):=by
 by_cases h1:a=[]
 ·subst h1
  rw [meetS_a' rfl,norm_self hb,inB_nil];simp
 ·by_cases h2:b=[]
  ·subst h2
   rw [meetS_b' h1,norm_self ha,inB_nil];simp
  ·rw [Bool.eq_iff_iff,Bool.and_eq_true,inB_ne hm,inB_ne h1,inB_ne h2,meet_mem ha hb h1 h2]
end
section
open Go.RowKit NumP

theorem are_nrm {l:List Rg}(h:areB l=true):Nrm l:=by
 by_cases hh:Are l
 ·exact hh.2
 ·rw [areB_no hh]at h;cases h
theorem valB_some {t:Ty}{s x:ByteArray}(h:canonT t s=some x):isValB t s=(x.toList==s.toList):=by unfold isValB;rw [h]
theorem valB_none {t:Ty}{s:ByteArray}(h:canonT t s=none):isValB t s=false:=by unfold isValB;rw [h]
theorem valB_again {t:Ty}{s v:ByteArray}(h:canonT t s=some v):isValB t v=true:=by
 rw [valB_some (canonT_again h)];simp
theorem may_kind {t:Ty}(h:mayB t=true):isTyB t=true∧(t.k=1∨t.k=2):=by
 unfold mayB at h
 simp only [Bool.and_eq_true,Bool.or_eq_true,decide_eq_true_eq]at h
 exact h
theorem narr_yes {x n:Ty}{r:List Rg}(h:narrT x r=(n,true)):mayB x=true∧areB r=true∧nothB x r=false∧isTyB (narT x r)=true∧n=narT x r:=by
 cases h1:mayB x with
 | false=>rw [narr_a h1]at h;cases h
 | true =>
  cases h2:areB r with
  | false=>rw [narr_b h2]at h;cases h
  | true =>
   cases h3:nothB x r with
   | true=>rw [narr_c h3]at h;cases h
   | false =>
    cases h4:isTyB (narT x r)with
    | false=>rw [narr_d h4]at h;cases h
    | true=>rw [narr_e h1 h2 h3 h4]at h;cases h;exact⟨rfl,rfl,rfl,rfl,rfl⟩
theorem narr_in {x:Ty}{r:List Rg}(h1:mayB x=true)(h2:areB r=true)(h3:nothB x r=false)(m:Int):inB (meetS x.rg r) m=(inB x.rg m&&inB r m):=by
 by_cases hm:meetS x.rg r=[]
 ·unfold nothB at h3
  rw [hm]at h3
  have h4:x.rg.length+r.length=0:=by simp at h3 ⊢;exact h3
  have e1:x.rg=[]:=List.length_eq_zero_iff.1 (by omega)
  have e2:r=[]:=List.length_eq_zero_iff.1 (by omega)
  rw [hm,e1,e2,inB_nil];rfl
 ·exact meet_in (are_nrm (may_are h1)) (are_nrm h2) hm m
noncomputable def szV (x:Ty)(c:ByteArray):Int:=if x.k=1 then(parseL c.data.toList).getD 0 else(c.size:Int)
theorem narr_law {x n:Ty}{r:List Rg}{s c:ByteArray}(h:narrT x r=(n,true))(hc:canonT x s=some c):isTyB n=true∧isValB n c=inB r (szV x c):=by
 obtain⟨h1,h2,h3,h4,rfl⟩:=narr_yes h
 refine⟨h4,?_⟩
 obtain⟨hx,hk⟩:=may_kind h1
 have hin:=narr_in h1 h2 h3
 have hcn:canonT (narT x r) c=canO (narT x r) c:=if_pos h4
 unfold canonT at hc
 rw [if_pos hx]at hc
 have key:canonT (narT x r) c=if inB r (szV x c)=true then some c else none:=by
  rw [hcn]
  rcases hk with hk|hk
  ·have e1:canO x s=intO x.rg s:=if_pos hk
   rw [e1]at hc
   obtain⟨m,rfl,hb,hm,_⟩:=intO_again hc
   have e2:canO (narT x r) (fmtS m)=intO (meetS x.rg r) (fmtS m):=if_pos hk
   have e3:szV x (fmtS m)=m:=by
    unfold szV
    rw [if_pos hk,fmt_dataT,parseL_fmt hb.1 hb.2];rfl
   rw [e2,e3]
   unfold intO
   rw [fmt_dataT,readL_fmt hb.1 hb.2]
   show(if inB (meetS x.rg r) m=true then some (fmtS m)else none)=_
   rw [hin,hm,Bool.true_and]
  ·have k1:¬x.k=1:=by omega
   have e1:canO x s=if (textB s&&inB x.rg s.size&&(emB x.pt || textOfB x.pt s))=true then some s else none:=by
    unfold canO;rw [if_neg k1,if_pos hk]
   rw [e1]at hc
   have hg:(textB s&&inB x.rg s.size&&(emB x.pt || textOfB x.pt s))=true:=by
    apply Classical.byContradiction
    intro hn
    rw [if_neg hn]at hc;cases hc
   rw [if_pos hg]at hc
   cases hc
   have e2:canO (narT x r) s=if (textB s&&inB (meetS x.rg r) s.size&&(emB x.pt || textOfB x.pt s))=true then some s else none:=by
    unfold canO narT;rw [if_neg k1,if_pos hk]
   have e3:szV x s=(s.size:Int):=by unfold szV;rw [if_neg k1]
   simp only [Bool.and_eq_true]at hg
   rw [e2,e3,hin,hg.1.1,hg.1.2,hg.2]
   simp
 cases hi:inB r (szV x c)with
 | true=>rw [hi]at key;rw [valB_some (key.trans (if_pos rfl))];simp
 | false=>rw [hi]at key;exact valB_none (key.trans (if_neg (by decide)))
end
section
open Go.RowKit

def escL:List UInt8→List UInt8
 | []=>[]
 | c::r=>if escB c then 92::c::escL r else c::escL r
def quoteL (l:List UInt8):List UInt8:=34::(escL l++ [34])
def quoteS (s:ByteArray):ByteArray:=⟨(quoteL s.data.toList).toArray⟩
theorem escL_esc {c:UInt8}{r:List UInt8}(h:escB c=true):escL (c::r)=92::c::escL r:=by rw [escL,if_pos h]
theorem escL_plain {c:UInt8}{r:List UInt8}(h:escB c=false):escL (c::r)=c::escL r:=by rw [escL,if_neg (by rw [h];decide)]
theorem escB_not {c:UInt8}(h:escB c=false):c≠34∧c≠92:=by
 unfold escB at h;rw [Bool.or_eq_false_iff,beq_eq_false_iff_ne,beq_eq_false_iff_ne]at h;exact h
theorem iEsc_any (c:UInt8)(w:World):Calls Tryz.prog 69 #[.int .u8 c.toNat] w fun e w'=>e=.returned (.bool (escB c))∧w=w':=by
 have h1:=byte_beq c 34
 have h2:=byte_beq c 92
 cases h:(c==34)<;>cases h':(c==92)
 all_goals
  rw [h]at h1
  rw [h']at h2
  have H1:((c.toNat:Int)==34)=_:=h1
  have H2:((c.toNat:Int)==92)=_:=h2
  clear h1 h2
  go_enter Tryz.func69,Tryz.ntmps69
  go_wp2
  go_ret
  exact⟨ret_bool (by unfold escB;rw [h,h'];rfl),rfl⟩
theorem quote_end {s:ByteArray}{l:List UInt8}{k:Nat}(hk:s.size≤k)(h:l++escL (s.data.toList.drop k)=34::escL s.data.toList):(⟨(l++ [34]).toArray⟩:ByteArray)=quoteS s:=by
 rw [List.drop_eq_nil_of_le (by simp;omega),escL,List.append_nil]at h
 unfold quoteS quoteL;rw [h];rfl
theorem quote_esc {s:ByteArray}{l:List UInt8}{k:Nat}(hk:k<s.size)(hc:escB s[k]=true)(h:l++escL (s.data.toList.drop k)=34::escL s.data.toList):(l++ [92]++ [s[k]])++escL (s.data.toList.drop (k+1))=34::escL s.data.toList:=by
 rw [←h,data_drop s k hk,escL_esc hc];simp
theorem quote_plain {s:ByteArray}{l:List UInt8}{k:Nat}(hk:k<s.size)(hc:escB s[k]=false)(h:l++escL (s.data.toList.drop k)=34::escL s.data.toList):(l++ [s[k]])++escL (s.data.toList.drop (k+1))=34::escL s.data.toList:=by
 rw [←h,data_drop s k hk,escL_plain hc];simp
theorem iQuote_any (s:ByteArray)(hs:s.size≤1048576)(w:World):
  Calls Tryz.prog 34 #[.string s] w fun e w'=>e=.returned (.string (quoteS s))∧Below w.heap.size w w':=by
 go_enter Tryz.func34,Tryz.ntmps34
 go_wp2
 go_loopw [8,3] (fun i v wr=>∃(k:Nat) (l:List UInt8),k≤s.size∧l.length≤2*k+1∧i=.int .i64 k∧Buf w.heap.size v l w wr∧Hid (l++escL (s.data.toList.drop k)=34::escL s.data.toList)) (fun i _ _=>s.size-(intOf i).toNat)
 case atStart=>exact⟨0,[34],by omega,by simp,rfl,buf_one (Below.refl _ _) 34 rfl,hid rfl⟩
 case round=>
  obtain⟨k,l,hk,hl,rfl,hb,HR⟩:=hrel
  by_cases hlt:k<s.size
  ·cases hc:escB s[k]
   ·have HC:=hid hc
    clear hc
    go_wp2_with (first
     |(go_at_call 69;refine(iEsc_any _ _).mono ?_;rw [HC.out];rintro e w' ⟨rfl,rfl⟩)
     |(at_builtin;refine buf_append rfl _ _ rfl _ _ _ rfl _ _ _ hb rfl s[k] rfl (by omega) ?_;clear hb;intro v1 w1 hb))
    go_roundw
    case rel=>exact⟨k+1,_,by omega,by simp;omega,by go_num,hb,hid (quote_plain hlt HC.out HR.out)⟩
    case measure=>simp [intOf];omega
   ·have HC:=hid hc
    clear hc
    go_wp2_with (first
     |(go_at_call 69;refine(iEsc_any _ _).mono ?_;rw [HC.out];rintro e w' ⟨rfl,rfl⟩)
     |(at_builtin;refine buf_append rfl _ _ rfl _ _ _ rfl _ _ _ hb rfl 92 rfl (by omega) ?_;clear hb;intro v1 w1 hb1)
     |(at_builtin;refine buf_append rfl _ _ rfl _ _ _ rfl _ _ _ hb1 rfl s[k] rfl (by simp;omega) ?_;clear hb1;intro v2 w2 hb2))
    go_roundw
    case rel=>exact⟨k+1,_,by omega,by simp;omega,by go_num,hb2,hid (quote_esc hlt HC.out HR.out)⟩
    case measure=>simp [intOf];omega
  ·go_wp2_with (at_builtin;refine buf_append rfl _ _ rfl _ _ _ rfl _ _ _ hb rfl 34 rfl (by omega) ?_;clear hb;intro v1 w1 hb1;have hcv:=buf_str hb1)
   go_ret
   exact⟨ret_str (quote_end (by omega) HR.out),hb1.below⟩
theorem byte_bne {c d:UInt8}(h:c=d):((c.toNat:Int) != (d.toNat:Int))=false:=by subst h;simp
theorem byte_nbne {c d:UInt8}(h:c≠d):((c.toNat:Int) != (d.toNat:Int))=true:=by rw [bne,byte_ne h];rfl
theorem byte_is {c d:UInt8}(h:c=d):((c.toNat:Int)==(d.toNat:Int))=true:=by subst h;simp
end
section
open Go.RowKit
end
section
open Go.RowKit

structure Tok where
 k:Int
 t:ByteArray
 p:Int
def Tok.enc (x:Tok):List Value:=[.int .i64 x.k,.string x.t,.int .i64 x.p]
theorem Tok.enc_len (x:Tok):x.enc.length=3:=rfl
abbrev HasT (w:World)(v:Value)(l:List Tok):Prop:=HasR Tok.enc 3 w v l
abbrev RowT (B:Nat)(w:World)(v:Value)(l:List Tok):Prop:=RowR Tok.enc 3 98 B w v l
def Tk (w:World)(p:Addr)(x:Tok):Prop:=w.cell? p=some (.int .i64 x.k)∧w.cell? ⟨p.block,p.off+1,none⟩=some (.string x.t)∧w.cell? ⟨p.block,p.off+2,none⟩=some (.int .i64 x.p)
theorem Tk.below {w w':World}{p:Addr}{x:Tok}(h:Tk w p x)(hb:Below w.heap.size w w')(hp:p.block<w.heap.size):Tk w' p x:=
 ⟨by rw [hb.cell hp];exact h.1,by rw [hb.cell (p:=⟨p.block,p.off+1,none⟩) hp];exact h.2.1,by rw [hb.cell (p:=⟨p.block,p.off+2,none⟩) hp];exact h.2.2⟩
theorem HasT.tk {w:World}{A:Option Addr}{l:List Tok}(h:∀i (h:i<l.length),∃a,A=some a∧a.block<w.heap.size∧∀j x,(l[i].enc)[j]? =some x→w.cell? ((a.add (i*3)).add j)=some x)(k:Nat)(hk:k<l.length):
  ∃a,A=some a∧(a.add (k*3)).block<w.heap.size∧Tk w (a.add (k*3)) l[k]:=by
 obtain⟨a,ha,hb,hc⟩:=h k hk
 exact⟨a,ha,by rw [addr_blk];exact hb,hc 0 _ rfl,hc 1 _ rfl,hc 2 _ rfl⟩
theorem box3 {w w1:World}{v0 v1 v2:Value}{t:TypeId}(h:Below (w.alloc (.cells #[v0,v1,v2] t)).heap.size (w.alloc (.cells #[v0,v1,v2] t)) w1):
  w1.cell? ⟨w.heap.size,0,none⟩=some v0∧w1.cell? ⟨w.heap.size,1,none⟩=some v1∧w1.cell? ⟨w.heap.size,2,none⟩=some v2:=by
 have hn:=World.news_of_block (cs:=#[v0,v1,v2]) (t:=t) (fr:=(0,0)) (heap_alloc_new w _)
 have hl:w.heap.size<(w.alloc (.cells #[v0,v1,v2] t)).heap.size:=by simp
 refine⟨?_,?_,?_⟩
 ·rw [h.cell (p:=⟨w.heap.size,0,none⟩) hl,←addr_zero];exact hn 0 v0 rfl
 ·rw [h.cell (p:=⟨w.heap.size,1,none⟩) hl,←addr_zero];exact hn 1 v1 rfl
 ·rw [h.cell (p:=⟨w.heap.size,2,none⟩) hl,←addr_zero];exact hn 2 v2 rfl
theorem infoTok:(Tryz.prog.info? 98).map (fun i=>(i.zero,i.size,i.bytes))=some (some (.agg #[.int .i64 0,.string ⟨#[]⟩,.int .i64 0]),3,32):=by kernel_rfl
theorem wpList_tok_append {ops:Array Oper}{rest:List Oper}{o:Oper}{a:Act}{Q:Exit→Act→World→Prop}{w:World}(hgd:o.guard=none)(s x:Operand)
  (ho:o.op=.call { callee:=.builtin .append,args:=#[s,x],argTypes:=#[66,66] })
  (B g n c:Nat) (L:List Tok) (hs:a.eval s=.slice (some ⟨g,0,none⟩) n c) (hrow:RowT B w (.slice (some ⟨g,0,none⟩) n c) L)
  (y:Tok) (b:Nat) (hx:a.eval x=.slice (some ⟨b,0,none⟩) 1 1) (hb:b=w.heap.size) (hlen:n+1≤4194304) (hbase:B≤w.heap.size) (q:Nat) (hq:q=n+1)
  (h:∀g' c'' w',RowT B w' (.slice (some ⟨g',0,none⟩) q c'') (L++ [y])→(w.alloc (.cells #[.int .i64 y.k,.string y.t,.int .i64 y.p] 98)).grownBy w' (some g)→wpList Tryz.prog ops Q rest (a.put o.dst (.slice (some ⟨g',0,none⟩) q c'')) w'):
  wpList Tryz.prog ops Q (o::rest) a (w.alloc (.cells #[.int .i64 y.k,.string y.t,.int .i64 y.p] 98)):=by
 obtain⟨i0,hi,hz0,hz1,hz2⟩:=info_parts infoTok
 have hnL:=RowR.cap' hrow
 subst hq
 subst hnL
 subst hb
 refine wpList_append_own _ hgd s x 66 ho B 98 i0 (.agg #[.int .i64 0,.string ⟨#[]⟩,.int .i64 0]) 3 32 Tryz.underlying66 hi hz0 hz1 hz2 rfl (by decide) _ L.length (L.flatMap Tok.enc) hs (RowR.alloc hrow _) ⟨w.heap.size,0,none⟩ 1 1 y.enc hx rfl (World.news_of_block (heap_alloc_new w _)) (by simp [Tok.enc,Value.oneCell']) (by unfold maxLen;omega) (by omega) (Nat.le_trans hbase ((Below.refl 0 w).alloc (Nat.zero_le _) _).size) ?_
 intro v' w' h2 h3 h4
 rcases h2.2 with ⟨h5,_⟩|⟨g',cap',cur,h5,_⟩
 ·exact absurd (h4.1 h5).1 (by simp)
 ·subst h5
  refine h g' cap' w' ?_ h3
  unfold RowT RowR
  rw [List.length_append,List.flatMap_append,List.flatMap_singleton]
  exact h2
end
section
open NumP

def mkB (l:List Tok)(m:ByteArray):Bool:=match l with
 | []=>false
 | x::_=>decide (x.k=4)&&decide (x.t=m)
theorem mkB_nil (m:ByteArray):mkB [] m=false:=rfl
theorem mkB_kind {x:Tok}{r:List Tok}{m:ByteArray}(h:¬x.k=4):mkB (x::r) m=false:=by unfold mkB;simp [h]
theorem mkB_text {x:Tok}{r:List Tok}{m:ByteArray}(h:x.k=4):mkB (x::r) m=decide (x.t=m):=by unfold mkB;simp [h]
def minusT:ByteArray:=⟨#[45]⟩
def barT:ByteArray:=⟨#[124]⟩
def dotsT:ByteArray:=⟨#[46,46]⟩
def numT (sign:List UInt8)(l:List Tok):Option Int:=match l with
 | []=>none
 | x::_=>if x.k=2 then parseL (sign++x.t.data.toList)else none
def rdB (l:List Tok):Option (Int×Nat):=
 if mkB l minusT then(numT [45] (l.drop 1)).map fun n=>(n,2)else(numT [] l).map fun n=>(n,1)
def rdR (l:List Tok):Option (Rg×Nat):=(rdB l).bind fun(lo,k)=>
 if mkB (l.drop k) dotsT then(rdB (l.drop (k+1))).map fun(hi,j)=>(⟨lo,hi⟩,k+1+j)else some (⟨lo,lo⟩,k)
theorem rdB_len {l:List Tok}{n:Int}{k:Nat}(h:rdB l=some (n,k)):1≤k∧k≤l.length:=by
 unfold rdB at h
 split at h
 ·cases hn:numT [45] (l.drop 1)with
  | none=>rw [hn]at h;cases h
  | some x =>
   rw [hn]at h;cases h
   have:l.drop 1≠[]:=by intro e;rw [e]at hn;cases hn
   have h1:0<(l.drop 1).length:=List.length_pos_iff.2 this
   rw [List.length_drop]at h1;omega
 ·cases hn:numT [] l with
  | none=>rw [hn]at h;cases h
  | some x =>
   rw [hn]at h;cases h
   have:l≠[]:=by intro e;rw [e]at hn;cases hn
   have h1:0<l.length:=List.length_pos_iff.2 this
   omega
theorem rdR_len {l:List Tok}{x:Rg}{k:Nat}(h:rdR l=some (x,k)):1≤k∧k≤l.length:=by
 unfold rdR at h
 cases hb:rdB l with
 | none=>rw [hb]at h;cases h
 | some p =>
  obtain⟨lo,j⟩:=p
  have h1:=rdB_len hb
  rw [hb,Option.bind_some]at h
  simp only at h
  split at h
  ·cases hb2:rdB (l.drop (j+1))with
   | none=>rw [hb2]at h;cases h
   | some q =>
    obtain⟨hi,j2⟩:=q
    have h2:=rdB_len hb2
    rw [hb2]at h;cases h
    rw [List.length_drop]at h2
    omega
  ·cases h;exact h1
inductive Run (T:List Tok):Nat→List Rg→Option (List Rg×Nat)→Prop
 | bad {p:Nat} {R:List Rg}:rdR (T.drop p)=none→Run T p R none
 | stop {p k:Nat} {R:List Rg} {x:Rg}:rdR (T.drop p)=some (x,k)→mkB (T.drop (p+k)) barT=false→Run T p R (some (R++ [x],p+k))
 | more {p k:Nat} {R:List Rg} {x:Rg} {res:Option (List Rg×Nat)}:rdR (T.drop p)=some (x,k)→mkB (T.drop (p+k)) barT=true→Run T (p+k+1) (R++ [x]) res→Run T p R res
theorem Run.exists (T:List Tok):∀(n p:Nat) (R:List Rg),T.length-p≤n→∃res,Run T p R res
 | n, p, R, hn => by
  cases h:rdR (T.drop p)with
  | none=>exact⟨none,.bad h⟩
  | some q =>
   obtain⟨x,k⟩:=q
   have hk:=rdR_len h
   rw [List.length_drop]at hk
   cases hm:mkB (T.drop (p+k)) barT with
   | false=>exact⟨_,.stop h hm⟩
   | true =>
    match n,hn with
    | 0,hn=>omega
    | n + 1, hn =>
     obtain⟨res,hr⟩:=Run.exists T n (p+k+1) (R++ [x]) (by omega)
     exact⟨res,.more h hm hr⟩
theorem Run.inv {T:List Tok}{p:Nat}{R:List Rg}{res:Option (List Rg×Nat)}(h:Run T p R res):
  (rdR (T.drop p)=none∧res=none)∨∃x k,rdR (T.drop p)=some (x,k)∧((mkB (T.drop (p+k)) barT=false∧res=some (R++ [x],p+k))∨(mkB (T.drop (p+k)) barT=true∧Run T (p+k+1) (R++ [x]) res)):=by
 cases h with
 | bad h=>exact .inl ⟨h,rfl⟩
 | stop h hm=>exact .inr ⟨_,_,h,.inl ⟨hm,rfl⟩⟩
 | more h hm hr=>exact .inr ⟨_,_,h,.inr ⟨hm,hr⟩⟩
theorem mkB_len {T:List Tok}{p:Nat}{m:ByteArray}(h:mkB (T.drop p) m=true):p<T.length:=by
 rcases Nat.lt_or_ge p T.length with h1|h1
 ·exact h1
 ·rw [List.drop_eq_nil_of_le h1]at h;cases h
theorem Run.bd {T:List Tok}{p:Nat}{R:List Rg}{res:Option (List Rg×Nat)}(h:Run T p R res)(hR:R.length≤p):∀Q n,res=some (Q,n)→n≤T.length∧1≤n∧Q.length≤n:=by
 induction h with
 | bad h=>intro Q n e;cases e
 | @stop p k R x h hm =>
  intro Q n e;cases e
  have hk:=rdR_len h
  rw [List.length_drop]at hk
  rw [List.length_append];simp;omega
 | @more p k R x res h hm hr ih =>
  have hk:=rdR_len h
  exact ih (by rw [List.length_append];simp;omega)
end
section
open Go.RowKit NumP

theorem HasT.head {w:World}{A:Option Addr}{n cap:Nat}{x:Tok}{r:List Tok}(h:HasT w (.slice A n cap) (x::r)):
  ∃a,A=some a∧n=r.length+1∧a.block<w.heap.size∧w.cell? a=some (.int .i64 x.k)∧w.cell? ⟨a.block,a.off+1,none⟩=some (.string x.t):=by
 obtain⟨A',cap',hv,hn,hc⟩:=h
 cases hv
 obtain⟨a,ha,hb,hk⟩:=HasT.tk hc 0 (by simp)
 exact⟨a,ha,by simp,hb,hk.1,hk.2.1⟩
theorem HasT.two {w:World}{A:Option Addr}{n cap:Nat}{x y:Tok}{r:List Tok}(h:HasT w (.slice A n cap) (x::y::r)):
  ∃a,A=some a∧w.cell? ⟨a.block,a.off+3,none⟩=some (.int .i64 y.k)∧w.cell? ⟨a.block,a.off+4,none⟩=some (.string y.t):=by
 obtain⟨A',cap',hv,hn,hc⟩:=h
 cases hv
 obtain⟨a,ha,hb,hk⟩:=HasT.tk hc 1 (by simp)
 exact⟨a,ha,hk.1,hk.2.1⟩
theorem HasT.size {w:World}{A:Option Addr}{n cap:Nat}{l:List Tok}(h:HasT w (.slice A n cap) l):n=l.length∧n≤9223372036854775807:=by
 obtain⟨A',cap',hv,hn,_⟩:=h
 cases hv
 exact⟨rfl,hn⟩
theorem iMk_any (A:Option Addr)(n cap:Nat)(l:List Tok)(m:ByteArray)(w:World)(hv:HasT w (.slice A n cap) l):
  Calls Tryz.prog 104 #[.slice A n cap,.string m] w fun e w'=>e=.returned (.bool (mkB l m))∧w=w':=by
 obtain⟨hn,hn'⟩:=hv.size
 match l with
 | [] =>
  obtain rfl:n=0:=by simpa using hn
  rw [mkB_nil]
  clear hv hn
  go_enter Tryz.func104,Tryz.ntmps104
  go_wp2
  go_ret
  exact⟨rfl,rfl⟩
 | x :: r =>
  obtain⟨a,rfl,hn2,hb,c0,c1⟩:=hv.head
  have h0:(0:Int)<(n:Int):=by omega
  have h0':decide (0<n)=true:=decide_eq_true (by omega)
  clear hn hn2
  by_cases hk:x.k=4
  ·rw [mkB_text hk]
   have hk':(x.k==4)=true:=by simpa using hk
   by_cases ht:x.t=m
   ·rw [decide_eq_true ht]
    have ht1:(x.t.toList==m.toList)=true:=by rw [ht];simp
    clear ht hk hv
    go_enter Tryz.func104,Tryz.ntmps104
    go_wp2
    go_ret
    exact⟨rfl,rfl⟩
   ·rw [decide_eq_false ht]
    have ht1:(x.t.toList==m.toList)=false:=by
     simp only [beq_eq_false_iff_ne,ne_eq]
     intro e;exact ht (by rw [ByteArray.toList_eq,ByteArray.toList_eq]at e;apply ByteArray.ext;exact Array.toList_inj.1 e)
    clear ht hk hv
    go_enter Tryz.func104,Tryz.ntmps104
    go_wp2
    go_ret
    exact⟨rfl,rfl⟩
  ·rw [mkB_kind hk]
   have hk':(x.k==4)=false:=by simpa using hk
   clear hk hv
   go_enter Tryz.func104,Tryz.ntmps104
   go_wp2
   go_ret
   exact⟨rfl,rfl⟩
def bdV:Option (Int×Nat)→Value
 | some (n,k)=>.tuple #[.int .i64 n,.int .i64 k]
 | none=>.tuple #[.int .i64 0,.int .i64 0]
theorem rdB_minus {l:List Tok}(h:mkB l minusT=true):rdB l=(numT [45] (l.drop 1)).map fun n=>(n,2):=by unfold rdB;rw [if_pos h]
theorem rdB_plain {l:List Tok}(h:mkB l minusT=false):rdB l=(numT [] l).map fun n=>(n,1):=by unfold rdB;rw [if_neg (by rw [h];simp)]
theorem numT_kind {sg:List UInt8}{x:Tok}{r:List Tok}(h:¬x.k=2):numT sg (x::r)=none:=if_neg h
theorem numT_num {sg:List UInt8}{x:Tok}{r:List Tok}(h:x.k=2):numT sg (x::r)=parseL (sg++x.t.data.toList):=if_pos h
theorem data_app (a b:ByteArray):(a++b).data.toList=a.data.toList++b.data.toList:=by simp
theorem iPar_none (s:ByteArray)(hs:s.size≤maxLen)(h:parseL s.data.toList=none)(w:World):
  Calls Tryz.prog 14 #[.string s] w fun e w'=>e=.returned (.tuple #[.int .i64 0,.bool false])∧Below w.heap.size w w':=
 (iParse_any s hs w).mono fun _ _ ⟨he,hb⟩=>⟨by rw [he,h];rfl,hb⟩
theorem iPar_some (s:ByteArray)(hs:s.size≤maxLen)(n:Int)(h:parseL s.data.toList=some n)(w:World):
  Calls Tryz.prog 14 #[.string s] w fun e w'=>e=.returned (.tuple #[.int .i64 n,.bool true])∧Below w.heap.size w w':=
 (iParse_any s hs w).mono fun _ _ ⟨he,hb⟩=>⟨by rw [he,h];rfl,hb⟩
theorem iBd_any (A:Option Addr)(n cap:Nat)(l:List Tok)(w:World)(hv:HasT w (.slice A n cap) l)(hs:∀x∈l,x.t.size≤1048576):
  Calls Tryz.prog 125 #[.slice A n cap] w fun e w'=>e=.returned (bdV (rdB l))∧Below w.heap.size w w':=by
 have HV:=hid hv
 obtain⟨hn,hn'⟩:=hv.size
 cases hm:mkB l minusT with
 | true =>
  have HM:Hid (mkB l ⟨#[45]⟩=true):=hid hm
  rw [rdB_minus hm]
  match l,hm with
  | x :: r, hm =>
   match r with
   | [] =>
    obtain rfl:n=1:=by simpa using hn
    clear hv hn hs hm
    go_enter Tryz.func125,Tryz.ntmps125
    go_wp2_with (go_at_call 104;refine(iMk_any _ _ _ _ ⟨#[45]⟩ _ HV.out).mono ?_;rw [HM.out];rintro e w' ⟨rfl,rfl⟩)
    go_ret2
    exact⟨rfl,Below.refl _ _⟩
   | y :: r =>
    obtain⟨a,rfl,c0,c1⟩:=hv.two
    have c1':w.cell? ⟨a.block,a.off+3+1,none⟩=some (.string y.t):=c1
    have hsz:=hs y (by simp)
    have hn2:(2:Int)≤(n:Int):=by simp at hn;omega
    have hn1:(1:Int)<(n:Int):=by omega
    have hne:((1:Int)==(n:Int))=false:=by simp;omega
    have hne':((1:Nat)==n)=false:=by simp;omega
    clear hn hv hm hs
    rw [show(x::y::r).drop 1=y::r from rfl]
    by_cases hk:y.k=2
    ·have hk':(y.k != 2)=false:=by simpa using hk
     have HP0:Hid (numT [45] (y::r)=parseL ((⟨#[45]⟩:ByteArray)++y.t).data.toList):=hid (by rw [numT_num hk,data_app])
     have hz:((⟨#[45]⟩:ByteArray)++y.t).size≤maxLen:=by rw [ByteArray.size_append];show 1+y.t.size≤maxLen;unfold maxLen;omega
     have HZ:=hid hz
     clear hk hz
     rw [HP0.out]
     cases hp:parseL ((⟨#[45]⟩:ByteArray)++y.t).data.toList with
     | none =>
      have HP:=hid hp
      clear hp HP0
      go_enter Tryz.func125,Tryz.ntmps125
      go_wp2_with (first
       |(go_at_call 104;refine(iMk_any _ _ _ _ ⟨#[45]⟩ _ HV.out).mono ?_;rw [HM.out];rintro e w' ⟨rfl,rfl⟩)
       |(go_at_call 14;refine(iPar_none _ HZ.out HP.out _).mono ?_;rintro e w1 ⟨rfl,hb⟩))
      go_ret2
      exact⟨rfl,hb⟩
     | some m =>
      have HP:=hid hp
      clear hp HP0
      go_enter Tryz.func125,Tryz.ntmps125
      go_wp2_with (first
       |(go_at_call 104;refine(iMk_any _ _ _ _ ⟨#[45]⟩ _ HV.out).mono ?_;rw [HM.out];rintro e w' ⟨rfl,rfl⟩)
       |(go_at_call 14;refine(iPar_some _ HZ.out m HP.out _).mono ?_;rintro e w1 ⟨rfl,hb⟩))
      go_ret2
      exact⟨rfl,hb⟩
    ·have hk':(y.k != 2)=true:=by simpa using hk
     rw [numT_kind hk]
     clear hk
     go_enter Tryz.func125,Tryz.ntmps125
     go_wp2_with (go_at_call 104;refine(iMk_any _ _ _ _ ⟨#[45]⟩ _ HV.out).mono ?_;rw [HM.out];rintro e w' ⟨rfl,rfl⟩)
     go_ret2
     exact⟨rfl,Below.refl _ _⟩
 | false =>
  have HM:Hid (mkB l ⟨#[45]⟩=false):=hid hm
  rw [rdB_plain hm]
  match l with
  | [] =>
   obtain rfl:n=0:=by simpa using hn
   clear hv hn hs hm
   go_enter Tryz.func125,Tryz.ntmps125
   go_wp2_with (go_at_call 104;refine(iMk_any _ _ _ _ ⟨#[45]⟩ _ HV.out).mono ?_;rw [HM.out];rintro e w' ⟨rfl,rfl⟩)
   go_ret2
   exact⟨rfl,Below.refl _ _⟩
  | x :: r =>
   obtain⟨a,rfl,hn2,hb0,c0,c1⟩:=hv.head
   have hsz:=hs x (by simp)
   have hn1:(0:Int)<(n:Int):=by omega
   have hne:((0:Int)==(n:Int))=false:=by simp;omega
   have hne':((0:Nat)==n)=false:=by simp;omega
   clear hn hn2 hv hm hs
   by_cases hk:x.k=2
   ·have hk':(x.k != 2)=false:=by simpa using hk
    have HP0:Hid (numT [] (x::r)=parseL ((⟨#[]⟩:ByteArray)++x.t).data.toList):=hid (by rw [numT_num hk,data_app])
    have hz:((⟨#[]⟩:ByteArray)++x.t).size≤maxLen:=by rw [ByteArray.size_append];show 0+x.t.size≤maxLen;unfold maxLen;omega
    have HZ:=hid hz
    clear hk hz
    rw [HP0.out]
    cases hp:parseL ((⟨#[]⟩:ByteArray)++x.t).data.toList with
    | none =>
     have HP:=hid hp
     clear hp HP0
     go_enter Tryz.func125,Tryz.ntmps125
     go_wp2_with (first
      |(go_at_call 104;refine(iMk_any _ _ _ _ ⟨#[45]⟩ _ HV.out).mono ?_;rw [HM.out];rintro e w' ⟨rfl,rfl⟩)
      |(go_at_call 14;refine(iPar_none _ HZ.out HP.out _).mono ?_;rintro e w1 ⟨rfl,hb⟩))
     go_ret2
     exact⟨rfl,hb⟩
    | some m =>
     have HP:=hid hp
     clear hp HP0
     go_enter Tryz.func125,Tryz.ntmps125
     go_wp2_with (first
      |(go_at_call 104;refine(iMk_any _ _ _ _ ⟨#[45]⟩ _ HV.out).mono ?_;rw [HM.out];rintro e w' ⟨rfl,rfl⟩)
      |(go_at_call 14;refine(iPar_some _ HZ.out m HP.out _).mono ?_;rintro e w1 ⟨rfl,hb⟩))
     go_ret2
     exact⟨rfl,hb⟩
   ·have hk':(x.k != 2)=true:=by simpa using hk
    rw [numT_kind hk]
    clear hk
    go_enter Tryz.func125,Tryz.ntmps125
    go_wp2_with (go_at_call 104;refine(iMk_any _ _ _ _ ⟨#[45]⟩ _ HV.out).mono ?_;rw [HM.out];rintro e w' ⟨rfl,rfl⟩)
    go_ret2
    exact⟨rfl,Below.refl _ _⟩
def rgV:Option (Rg×Nat)→Value
 | some (x,k)=>.tuple #[.agg #[.int .i64 x.lo,.int .i64 x.hi],.int .i64 k]
 | none=>.tuple #[.agg #[.int .i64 0,.int .i64 0],.int .i64 0]
theorem rdR_none {l:List Tok}(h:rdB l=none):rdR l=none:=by unfold rdR;rw [h];rfl
theorem rdR_one {l:List Tok}{lo:Int}{k:Nat}(h:rdB l=some (lo,k))(hm:mkB (l.drop k) dotsT=false):rdR l=some (⟨lo,lo⟩,k):=by
 unfold rdR;rw [h,Option.bind_some];simp only;rw [if_neg (by rw [hm];simp)]
theorem rdR_two {l:List Tok}{lo:Int}{k:Nat}(h:rdB l=some (lo,k))(hm:mkB (l.drop k) dotsT=true):rdR l=(rdB (l.drop (k+1))).map fun(hi,j)=>(⟨lo,hi⟩,k+1+j):=by
 unfold rdR;rw [h,Option.bind_some];simp only;rw [if_pos hm]
theorem HasT.cut {w:World}{a:Addr}{n cap:Nat}{l:List Tok}(h:HasT w (.slice (some a) n cap) l)(hc:n≤cap){k:Nat}(hk:k≤n):
  HasT w (.slice (if cap=k then some a else some (a.add (k*3))) (n-k) (cap-k)) (l.drop k):=by
 obtain⟨A',cap',hv,hn,hcell⟩:=h
 cases hv
 by_cases e:cap=k
 ·rw [if_pos e]
  refine⟨some a,cap-k,by rw [List.length_drop],by rw [List.length_drop];omega,fun i hi=>?_⟩
  rw [List.length_drop]at hi;omega
 ·rw [if_neg e]
  refine⟨some (a.add (k*3)),cap-k,by rw [List.length_drop],by rw [List.length_drop];omega,fun i hi=>?_⟩
  rw [List.length_drop]at hi
  obtain⟨a',h1,h2,h3⟩:=hcell (k+i) (by omega)
  cases h1
  refine⟨_,rfl,by rw [addr_blk];exact h2,fun j x hx=>?_⟩
  rw [List.getElem_drop]at hx
  rw [show(a.add (k*3)).add (i*3)=a.add ((k+i)*3)by rw [Go.Deep.add_add,Nat.add_mul]]
  exact h3 j x hx
theorem box2f {w w1:World}{v0 v1:Value}{t:TypeId}(h:Below (w.alloc (.cells #[v0,v1] t)).heap.size (w.alloc (.cells #[v0,v1] t)) w1):
  w.heap.size<w1.heap.size∧(w1.cell? ⟨w.heap.size,0,none⟩=some v0∧w1.cell? ⟨w.heap.size,1,none⟩=some v1)∧w1.frozen? ⟨w.heap.size,0,none⟩=false∧w1.frozen? ⟨w.heap.size,1,none⟩=false:=by
 have hl:w.heap.size<(w.alloc (.cells #[v0,v1] t)).heap.size:=by simp
 have hf:∀j,w1.frozen? ⟨w.heap.size,j,none⟩=false:=fun j=>by
  rw [h.frozen (p:=⟨w.heap.size,j,none⟩) hl]
  unfold World.frozen?
  dsimp only
  rw [heap_alloc_new]
  simp
 exact⟨Nat.lt_of_lt_of_le hl h.size,box2 h,hf 0,hf 1⟩
theorem iRg_any (A:Option Addr)(n cap:Nat)(l:List Tok)(w:World)(hv:HasT w (.slice A n cap) l)(hc:n≤cap)(hcm:cap≤9223372036854775807)(hs:∀x∈l,x.t.size≤1048576):
  Calls Tryz.prog 103 #[.slice A n cap] w fun e w'=>e=.returned (rgV (rdR l))∧Below w.heap.size w w':=by
 obtain⟨hn,hn'⟩:=hv.size
 have HV:Hid (∀W,Below w.heap.size w W→HasT W (.slice A n cap) l):=hid fun W h=>HasR.below hv h
 have HS:=hid hs
 have HA:Hid (∀v0 v1 W,Below (w.alloc (.cells #[v0,v1] 80)).heap.size (w.alloc (.cells #[v0,v1] 80)) W→Below w.heap.size w W):=hid fun v0 v1 W h=>below_step (below_al (Below.refl _ _) _) h
 cases h1:rdB l with
 | none =>
  have HB:Hid (bdV (rdB l)=.tuple #[.int .i64 0,.int .i64 0]):=hid (by rw [h1];rfl)
  rw [rdR_none h1]
  clear hv hn h1 hs
  go_enter Tryz.func103,Tryz.ntmps103
  go_wp2_with (go_at_call 125;refine(iBd_any _ _ _ l _ (HV.out _ (below_al (Below.refl _ _) _)) HS.out).mono ?_;rw [HB.out];rintro e w1 ⟨rfl,hb⟩;obtain⟨hz,⟨c0,c1⟩,f0,f1⟩:=box2f hb)
  exact bodyPost_ret (v:=.tuple #[.agg #[.int .i64 0,.int .i64 0],.int .i64 0]) (by simp [results,Tryz.results103,go_sem,c0,c1]) rfl ⟨rfl,((HA.out _ _ _ hb).setCell (Nat.le_refl _) _).setCell (Nat.le_refl _) _⟩
 | some p =>
  obtain⟨lo,k⟩:=p
  obtain⟨k1,k2⟩:=rdB_len h1
  have HB:Hid (bdV (rdB l)=.tuple #[.int .i64 lo,.int .i64 k]):=hid (by rw [h1];rfl)
  obtain⟨a,rfl⟩:∃a,A=some a:=by
   match l,k2 with
   | [],k2=>simp at k2;omega
   | x::r,_=>obtain⟨a,ha,_⟩:=hv.head;exact⟨a,ha⟩
  have hkn:k≤n:=by omega
  have hkn':(k:Int)≤(n:Int):=by omega
  have hnc':(n:Int)≤(cap:Int):=by omega
  have hkc':(k:Int)≤(cap:Int):=by omega
  have hk0:(1:Int)≤(k:Int):=by omega
  have hk00:((k:Int)==0)=false:=by simp;omega
  have hk000:(k==0)=false:=by simp;omega
  have HC:Hid (∀W,Below w.heap.size w W→HasT W (.slice (if cap=k then some a else some (a.add (k*3))) (n-k) (cap-k)) (l.drop k)):=hid fun W h=>HasT.cut (HasR.below hv h) hc hkn
  have HSD:Hid (∀x∈l.drop (k+1),x.t.size≤1048576):=hid fun x hx=>hs x (List.mem_of_mem_drop hx)
  cases hm:mkB (l.drop k) dotsT with
  | false =>
   have HM:Hid (mkB (l.drop k) ⟨#[46,46]⟩=false):=hid hm
   rw [rdR_one h1 hm]
   clear hv hn h1 hs k2 hm
   go_enter Tryz.func103,Tryz.ntmps103
   go_wp2_with (first
    |(go_at_call 125;refine(iBd_any _ _ _ l _ (HV.out _ (below_al (Below.refl _ _) _)) HS.out).mono ?_;rw [HB.out];rintro e w1 ⟨rfl,hb⟩;obtain⟨hz,⟨c0,c1⟩,f0,f1⟩:=box2f hb)
    |(go_at_call 104;refine(iMk_any _ _ _ (l.drop k) ⟨#[46,46]⟩ _ (HC.out _ (HA.out _ _ _ hb))).mono ?_;rw [HM.out];rintro e w' ⟨rfl,rfl⟩))
   all_goals exact bodyPost_ret (v:=.tuple #[.agg #[.int .i64 lo,.int .i64 lo],.int .i64 k]) (by simp [results,Tryz.results103,go_sem,c0,c1]) rfl ⟨rfl,((HA.out _ _ _ hb).setCell (Nat.le_refl _) _).setCell (Nat.le_refl _) _⟩
  | true =>
   have HM:Hid (mkB (l.drop k) ⟨#[46,46]⟩=true):=hid hm
   have hkl:=mkB_len hm
   have hkn1:k+1≤n:=by omega
   have hkn1':(k:Int)+1≤(n:Int):=by omega
   have hkc1':(k:Int)+1≤(cap:Int):=by omega
   have htn1:((k:Int)+1).toNat=k+1:=by omega
   have HCT:Hid (∀W,Below w.heap.size w W→HasT W (.slice (some (a.add (k*3))) (n-k) (cap-k)) (l.drop k)):=hid fun W h=>by
    have:=HC.out W h
    rwa [if_neg (by omega)]at this
   have HC2:Hid (∀W,Below w.heap.size w W→HasT W (.slice (if cap=k+1 then some a else some (a.add ((k+1)*3))) (n-(k+1)) (cap-(k+1))) (l.drop (k+1))):=hid fun W h=>HasT.cut (HasR.below hv h) hc hkn1
   rw [rdR_two h1 hm]
   cases h2:rdB (l.drop (k+1))with
   | none =>
    have HB2:Hid (bdV (rdB (l.drop (k+1)))=.tuple #[.int .i64 0,.int .i64 0]):=hid (by rw [h2];rfl)
    clear hv hn h1 hs k2 hm hkl h2
    go_enter Tryz.func103,Tryz.ntmps103
    go_wp2_with (first
     |(go_at_call 125;((with_reducible refine(iBd_any _ _ _ l _ (HV.out _ (below_al (Below.refl _ _) _)) HS.out).mono ?_);rw [HB.out];rintro e w1 ⟨rfl,hb⟩;obtain⟨hz,⟨c0,c1⟩,f0,f1⟩:=box2f hb))
     |(go_at_call 104;((with_reducible refine(iMk_any _ _ _ (l.drop k) ⟨#[46,46]⟩ _ (HCT.out _ (HA.out _ _ _ hb))).mono ?_));rw [HM.out];rintro e w' ⟨rfl,rfl⟩)
     |(go_at_call 125;((with_reducible refine(iBd_any _ _ _ (l.drop (k+1)) _ (HC2.out _ (HA.out _ _ _ hb)) HSD.out).mono ?_));rw [HB2.out];rintro e w2 ⟨rfl,hb2⟩;obtain⟨hz2,⟨d0,d1⟩,g0,g1⟩:=box2f (below_step hb hb2)))
    all_goals exact bodyPost_ret (v:=.tuple #[.agg #[.int .i64 0,.int .i64 0],.int .i64 0]) (by simp [results,Tryz.results103,go_sem,d0,d1]) rfl ⟨rfl,((HA.out _ _ _ (below_step hb hb2)).setCell (Nat.le_refl _) _).setCell (Nat.le_refl _) _⟩
   | some q =>
    obtain⟨hi,j⟩:=q
    obtain⟨j1,j2⟩:=rdB_len h2
    rw [List.length_drop]at j2
    have HB2:Hid (bdV (rdB (l.drop (k+1)))=.tuple #[.int .i64 hi,.int .i64 j]):=hid (by rw [h2];rfl)
    have hj0:(1:Int)≤(j:Int):=by omega
    have hj00:((j:Int)==0)=false:=by simp;omega
    have hj000:(j==0)=false:=by simp;omega
    have hjb:(k:Int)+1+(j:Int)≤9223372036854775807:=by omega
    clear hv hn h1 hs k2 hm hkl h2 j2
    go_enter Tryz.func103,Tryz.ntmps103
    go_wp2_with (first
     |(go_at_call 125;((with_reducible refine(iBd_any _ _ _ l _ (HV.out _ (below_al (Below.refl _ _) _)) HS.out).mono ?_);rw [HB.out];rintro e w1 ⟨rfl,hb⟩;obtain⟨hz,⟨c0,c1⟩,f0,f1⟩:=box2f hb))
     |(go_at_call 104;((with_reducible refine(iMk_any _ _ _ (l.drop k) ⟨#[46,46]⟩ _ (HCT.out _ (HA.out _ _ _ hb))).mono ?_));rw [HM.out];rintro e w' ⟨rfl,rfl⟩)
     |(go_at_call 125;((with_reducible refine(iBd_any _ _ _ (l.drop (k+1)) _ (HC2.out _ (HA.out _ _ _ hb)) HSD.out).mono ?_));rw [HB2.out];rintro e w2 ⟨rfl,hb2⟩;obtain⟨hz2,⟨d0,d1⟩,g0,g1⟩:=box2f (below_step hb hb2)))
    all_goals exact bodyPost_ret (v:=.tuple #[.agg #[.int .i64 lo,.int .i64 hi],.int .i64 ((k:Int)+1+j)]) (by simp [results,Tryz.results103,go_sem,d0,d1]) rfl ⟨rfl,((HA.out _ _ _ (below_step hb hb2)).setCell (Nat.le_refl _) _).setCell (Nat.le_refl _) _⟩
end
end Go.Proofs.YtecladbckadijaaGreatDoor
