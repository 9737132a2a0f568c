/- MERGED for a claim. -/
import Derived.Test.YtecladbckadijaaGreatDoorTyE
set_option linter.unusedVariables false
set_option linter.unusedSimpArgs false
set_option maxRecDepth 100000
set_option maxHeartbeats 16000000
namespace Go.Proofs.YtecladbckadijaaGreatDoor
open Go.Lib (hid)
section
open Go.RowKit

theorem em_nil:emB ⟨#[]⟩=true:=rfl
theorem isTy_1 (rg:List Rg)(nm:List ByteArray)(pt ph:ByteArray):isTyB ⟨1,rg,nm,pt,ph⟩=(areB rg&&decide (nm.length=0)&&emB pt&&emB ph):=by
 show((decide (([]:List Rg).length=0)&&decide (nm.length=0)&&emB pt&&emB ph)&&areB rg)=_
 cases areB rg<;>cases decide (nm.length=0)<;>cases emB pt<;>cases emB ph<;>rfl
theorem isTy_2 (rg:List Rg)(nm:List ByteArray)(pt ph:ByteArray):isTyB ⟨2,rg,nm,pt,ph⟩=(areB rg&&loB rg&&(emB pt || (patS pt.data.toList).isSome)&&decide (nm.length=0)&&emB ph):=by
 show((decide (([]:List Rg).length=0)&&decide (nm.length=0)&&emB (⟨#[]⟩:ByteArray)&&emB ph)&&((areB rg&&loB rg)&&(emB pt || (patS pt.data.toList).isSome)))=_
 cases areB rg<;>cases loB rg<;>cases decide (nm.length=0)<;>cases (emB pt || (patS pt.data.toList).isSome)<;>cases emB ph<;>rfl
theorem isTy_3 (rg:List Rg)(nm:List ByteArray)(pt ph:ByteArray):isTyB ⟨3,rg,nm,pt,ph⟩=(decide (rg.length=0)&&decide (nm.length=0)&&emB pt&&emB ph):=by
 show((decide (rg.length=0)&&decide (nm.length=0)&&emB pt&&emB ph)&&true)=_
 rw [Bool.and_true]
theorem isTy_6 (rg:List Rg)(nm:List ByteArray)(pt ph:ByteArray):isTyB ⟨6,rg,nm,pt,ph⟩=(decide (rg.length=0)&&decide (nm.length=0)&&emB pt&&emB ph):=by
 show((decide (rg.length=0)&&decide (nm.length=0)&&emB pt&&emB ph)&&decide ((6:Int)=6))=_
 rw [show decide ((6:Int)=6)=true by decide,Bool.and_true]
theorem isTy_4 (rg:List Rg)(nm:List ByteArray)(pt ph:ByteArray)(h:namesB nm=true):isTyB ⟨4,rg,nm,pt,ph⟩=(decide (0<nm.length∧nm.length≤6)&&decide (rg.length=0)&&emB pt&&emB ph):=by
 show((decide (rg.length=0)&&decide (([]:List ByteArray).length=0)&&emB pt&&emB ph)&&enumB nm)=_
 unfold enumB
 rw [h]
 cases decide (rg.length=0)<;>cases decide (0<nm.length∧nm.length≤6)<;>cases emB pt<;>cases emB ph<;>rfl
theorem isTy_5 (rg:List Rg)(nm:List ByteArray)(pt ph:ByteArray):isTyB ⟨5,rg,nm,pt,ph⟩=(textB ph && !emB ph&&decide (rg.length=0)&&decide (nm.length=0)&&emB pt):=by
 show((decide (rg.length=0)&&decide (nm.length=0)&&emB pt&&emB (⟨#[]⟩:ByteArray))&&(!emB ph&&textB ph))=_
 cases decide (rg.length=0)<;>cases decide (nm.length=0)<;>cases emB pt<;>cases emB ph<;>cases textB ph<;>rfl
theorem isTy_other {k:Int}(rg:List Rg)(nm:List ByteArray)(pt ph:ByteArray)(h:k≠1∧k≠2∧k≠3∧k≠4∧k≠5∧k≠6):isTyB ⟨k,rg,nm,pt,ph⟩=false:=by
 obtain⟨h1,h2,h3,h4,h5,h6⟩:=h
 unfold isTyB validB
 simp [h1,h2,h3,h4,h5,h6]
theorem isTy_bad {t:Ty}(h:namesB t.nm=false):isTyB t=false:=by
 obtain⟨k,rg,nm,pt,ph⟩:=t
 have hz:decide (nm.length=0)=false:=by
  cases nm with
  | nil=>rw [names_nil]at h;cases h
  | cons x r=>rfl
 dsimp only at h
 by_cases k1:k=1
 ·subst k1;rw [isTy_1,hz];cases areB rg<;>rfl
 by_cases k2:k=2
 ·subst k2;rw [isTy_2,hz,Bool.and_false,Bool.false_and]
 by_cases k3:k=3
 ·subst k3;rw [isTy_3,hz,Bool.and_false,Bool.false_and,Bool.false_and]
 by_cases k4:k=4
 ·subst k4
  show(bareB _&&enumB nm)=false
  unfold enumB
  rw [h,Bool.and_false,Bool.and_false]
 by_cases k5:k=5
 ·subst k5;rw [isTy_5,hz,Bool.and_false,Bool.false_and]
 by_cases k6:k=6
 ·subst k6;rw [isTy_6,hz,Bool.and_false,Bool.false_and,Bool.false_and]
 exact isTy_other _ _ _ _ ⟨k1,k2,k3,k4,k5,k6⟩
theorem sIsTy_any (v:TyV)(t:Ty)(w:World)(h:HasTy w v t)(hs:TySz t):
  Calls Tryz.prog 30 #[v.val] w fun e w'=>e=.returned (.bool (isTyB t))∧Below w.heap.size w w':=by
 obtain⟨k,rg,nm,pt,ph⟩:=t
 obtain⟨k',vr,vn,pt',ph'⟩:=v
 obtain⟨rfl,hr,hn,rfl,rfl⟩:=h
 obtain⟨s1,s2,s3⟩:=hs
 dsimp only at hr hn s1 s2 s3 ⊢
 obtain⟨A,c,rfl,hn1,hc1⟩:=id hr
 obtain⟨A',c',rfl,hn2,hc2⟩:=id hn
 obtain⟨n,hnn⟩:∃n,n=rg.length:=⟨_,rfl⟩
 obtain⟨m,hmm⟩:∃m,m=nm.length:=⟨_,rfl⟩
 obtain⟨W0,hW0⟩:∃W0,W0=w.alloc (.cells #[.int .i64 k',.slice A n c,.slice A' m c',.string pt',.string ph'] 27):=⟨_,rfl⟩
 have hb0:Below w.heap.size w W0:=by rw [hW0];exact below_al (Below.refl _ _) _
 have hz0:w.heap.size<W0.heap.size:=by rw [hW0];simp
 have HBX:Hid (∀W,Below W0.heap.size W0 W→W.heap[w.heap.size]? =some (.cells #[.int .i64 k',.slice A n c,.slice A' m c',.string pt',.string ph'] 27 (0,0))):=hid fun W hb=>(hb.block _ hz0).trans (by rw [hW0];exact heap_alloc_new' _ _ rfl)
 have HLOW:Hid (∀W,Below W0.heap.size W0 W→Below w.heap.size w W):=hid fun W hb=>below_step hb0 hb
 have HAR:Hid (∀W,Below W0.heap.size W0 W→Calls Tryz.prog 60 #[.slice A n c] W fun e w'=>e=.returned (.bool (areB rg))∧Below W.heap.size W w'):=hid fun W hb=>sAre_any _ rg W (by rw [hnn];exact hr.below (below_step hb0 hb))
 have HLO:Hid (∀x r,rg=x::r→∃a,A=some a∧∀W,Below W0.heap.size W0 W→W.cell? a=some (.int .i64 x.lo)):=hid fun x r hx=>by
  subst hx
  obtain⟨a,ha,hab,hcell⟩:=HasG.gk hc1 0 (by simp)
  refine⟨a,ha,fun W hb=>?_⟩
  have:=(hcell.below (below_step hb0 hb) hab).1
  rw [Nat.zero_mul,add_0]at this;exact this
 have HPT:=hid (fun w=>sIsPat_any (fun n=>(salt_any n).2.2) pt' (by unfold maxLen;omega) w)
 have HTX:=hid (fun w=>sIsText_any ph' (by unfold maxLen;omega) w)
 have HNM:=hid (fun x (hx:x∈nm) w=>sIsName_any x (by have:=s1 x hx;unfold maxLen;omega) w)
 have HCE:Hid (∀i (hi:i<nm.length),∃a,A'=some a∧∀W,Below W0.heap.size W0 W→W.cell? (a.add i)=some (.string nm[i])):=hid fun i hi=>by
  obtain⟨a,ha,hab,hcell⟩:=hc2 i hi
  exact⟨a,ha,fun W hb=>by rw [(below_step hb0 hb).cell (by rw [add_blk];exact hab)];exact hcell⟩
 have HN1:Hid (n=rg.length):=hid hnn
 have HM1:Hid (m=nm.length):=hid hmm
 rw [←hnn]at hn1 ⊢
 rw [←hmm]at hn2 ⊢
 obtain⟨Z,hZ⟩:∃Z,Z=isTyB ⟨k',rg,nm,pt',ph'⟩:=⟨_,rfl⟩
 have HZ:=hid hZ
 rw [←hZ]
 clear hZ hr hn hc1 hc2 hnn hmm s1 s2 s3
 go_enter Tryz.func30,Tryz.ntmps30
 go_wp2
 rw [←hW0]
 obtain⟨g,hg⟩:∃g,g=w.heap.size:=⟨_,rfl⟩
 have HG:=hid hg
 rw [←hg]at HBX ⊢
 clear hW0 hb0 hz0 hg
 go_loopw [3] (fun i wr=>∃k:Nat,k≤m∧i=.int .i64 k∧Hid (NamesOk nm k)∧Hid (Below W0.heap.size W0 wr)) (fun i _=>m-(intOf i).toNat)
 case atStart=>exact⟨0,Nat.zero_le _,rfl,hid (names_zero nm),hid (Below.refl _ _)⟩
 case round=>
  obtain⟨q,hq,rfl,HI,HBW⟩:=hrel
  obtain⟨⟨x0,x1,x2,x3,x4⟩,-⟩:=five (HBX.out _ HBW.out)
  by_cases hlt:q<m
  ·have hlq:q<nm.length:=by rw [←HM1.out];exact hlt
   obtain⟨a,rfl,HCA⟩:=HCE.out q hlq
   have HSQ:=hid (HNM.out nm[q] (List.getElem_mem hlq))
   obtain⟨x,hx⟩:∃x,x=nm[q]:=⟨_,rfl⟩
   rw [←hx]at HCA HSQ
   have HX:=hid hx
   have HCQ:=hid HCA
   clear hx HCA
   have hqz:(q:Int)<(m:Int):=by omega
   go_wp2
   obtain⟨wo,HWO⟩:∃wo:World,Hid (wo=wr):=⟨_,hid rfl⟩
   go_loopw [4] (fun i wq=>∃j:Nat,j≤q∧i=.int .i64 j∧Hid (∀p (hp:p<nm.length),p<j→nm[p]≠x)∧Hid (Below W0.heap.size W0 wq)) (fun i _=>q-(intOf i).toNat)
   case atStart=>exact⟨0,Nat.zero_le _,rfl,hid fun p _ hp=>absurd hp (by omega),HBW⟩
   case round=>
    clear x0 x1 x2 x3 x4
    obtain⟨j,hj,rfl,HJ,HBQ⟩:=hrel
    obtain⟨⟨x0,x1,x2,x3,x4⟩,-⟩:=five (HBX.out _ HBQ.out)
    have cq:=HCQ.out _ HBQ.out
    by_cases hjq:j<q
    ·have hlj:j<nm.length:=by omega
     obtain⟨a2,e2,HCJ⟩:=HCE.out j hlj
     cases e2
     have cj:=HCJ _ HBQ.out
     obtain⟨y,hy⟩:∃y,y=nm[j]:=⟨_,rfl⟩
     rw [←hy]at cj
     have HY:=hid hy
     clear hy HCJ
     have hjz:(j:Int)<(q:Int):=by omega
     have hjm:(j:Int)<(m:Int):=by omega
     by_cases he:y=x
     ·subst he
      have HL:Hid (Z=false):=hid (by rw [HZ.out];exact isTy_bad (names_twice hlj hlq hjq (by rw [←HY.out,←HX.out])))
      go_wp2
      go_quiet (fail)
      go_wp2
      go_ret
      exact⟨ret_bool HL.out.symm,below_drewN (HLOW.out _ HBQ.out) _⟩
     ·have e1:(y.toList==x.toList)=false:=str_ne he
      have HJ2:Hid (∀p (hp:p<nm.length),p<j+1→nm[p]≠x):=hid fun p hp hpj=>by
       by_cases e:p=j
       ·subst e;rw [←HY.out];exact he
       ·exact HJ.out p hp (by omega)
      clear he
      go_wp2
      go_quiet (fail)
      go_wp2
      go_roundw
      case rel=>exact⟨j+1,by omega,by go_num,HJ2,hid (below_drewN HBQ.out _)⟩
      case measure=>simp [intOf];omega
    ·obtain rfl:j=q:=by omega
     obtain⟨b,hb⟩:∃b,b=nameB x:=⟨_,rfl⟩
     have HNB:=hid hb
     rw [←hb]at HSQ
     clear hb
     cases b with
     | false =>
      have HL:Hid (Z=false):=hid (by rw [HZ.out];exact isTy_bad (names_bad hlq (by rw [←HX.out];exact HNB.out.symm)))
      go_wp2_with (go_at_call 59;refine(HSQ.out _).mono ?_;rintro e w' ⟨rfl,rfl⟩)
      go_ret
      exact⟨ret_bool HL.out.symm,HLOW.out _ HBQ.out⟩
     | true =>
      have HN2:Hid (NamesOk nm (j+1)):=hid (names_step hlq HI.out (by rw [←HX.out];exact HNB.out.symm) fun p hp hpj=>by rw [←HX.out];exact HJ.out p hp hpj)
      go_wp2_with (go_at_call 59;refine(HSQ.out _).mono ?_;rintro e w' ⟨rfl,rfl⟩)
      go_roundw
      case rel=>exact⟨j+1,by omega,by go_num,HN2,HBQ⟩
      case measure=>simp [intOf];omega
  ·have HNS:Hid (namesB nm=true):=hid (names_yes (by have:=HI.out;rwa [show q=nm.length by have:=HM1.out;omega]at this))
   obtain rfl:q=m:=by omega
   clear HI HCE HNM hlt
   by_cases k1:k'=1
   ·subst k1
    obtain⟨b,hb⟩:∃b,b=areB rg:=⟨_,rfl⟩
    have HAB:=hid hb
    rw [←hb]at HAR
    clear hb
    cases b
    ·
     have HL:Hid (Z=false):=hid (by rw [HZ.out,isTy_1];simp [←HAB.out])
     go_wp2_with (first
    |(go_at_call 60;refine(HAR.out _ HBW.out).mono ?_;rintro e w1 ⟨rfl,hb1⟩;have HB1:=hid (below_step HBW.out hb1);obtain⟨⟨y0,y1,y2,y3,y4⟩,-⟩:=five (HBX.out _ HB1.out);try (have c0:=HC0.out _ HB1.out))
    |(go_at_call 61;refine(HPT.out _).mono ?_;rintro e w2 ⟨rfl,hb2⟩;have HB2:=hid (below_step HB1.out hb2);obtain⟨⟨z0,z1,z2,z3,z4⟩,-⟩:=five (HBX.out _ HB2.out))
    |(go_at_call 28;refine(HTX.out _).mono ?_;rintro e w1 ⟨rfl,rfl⟩)
    |(go_at_call 56; refine (HIN.out _).mono ?_; rintro e w1 ⟨rfl, rfl⟩))
     go_ret
     first|exact⟨ret_bool HL.out.symm,HLOW.out _ HB2.out⟩|exact⟨ret_bool HL.out.symm,HLOW.out _ HB1.out⟩|exact⟨ret_bool HL.out.symm,HLOW.out _ HBW.out⟩
    ·
     by_cases m0:q=0
     ·
      have Hm0:Hid (nm.length=0):=hid (by rw [←HM1.out];exact m0)
      subst m0
      rcases em_cases pt' with rfl|⟨pt1,pt2,pt3,pt4⟩
      ·
       rcases em_cases ph' with rfl|⟨ph1,ph2,ph3,ph4⟩
       ·
        have HL:Hid (Z=true):=hid (by rw [HZ.out,isTy_1];simp [←HAB.out,Hm0.out,em_nil])
        go_wp2_with (first
    |(go_at_call 60;refine(HAR.out _ HBW.out).mono ?_;rintro e w1 ⟨rfl,hb1⟩;have HB1:=hid (below_step HBW.out hb1);obtain⟨⟨y0,y1,y2,y3,y4⟩,-⟩:=five (HBX.out _ HB1.out);try (have c0:=HC0.out _ HB1.out))
    |(go_at_call 61;refine(HPT.out _).mono ?_;rintro e w2 ⟨rfl,hb2⟩;have HB2:=hid (below_step HB1.out hb2);obtain⟨⟨z0,z1,z2,z3,z4⟩,-⟩:=five (HBX.out _ HB2.out))
    |(go_at_call 28;refine(HTX.out _).mono ?_;rintro e w1 ⟨rfl,rfl⟩)
    |(go_at_call 56;refine(HIN.out _).mono ?_;rintro e w1 ⟨rfl,rfl⟩))
        go_ret
        first|exact⟨ret_bool HL.out.symm,HLOW.out _ HB2.out⟩|exact⟨ret_bool HL.out.symm,HLOW.out _ HB1.out⟩|exact⟨ret_bool HL.out.symm,HLOW.out _ HBW.out⟩
       ·
        have HL:Hid (Z=false):=hid (by rw [HZ.out,isTy_1];simp [ph4])
        go_wp2_with (first
    |(go_at_call 60;refine(HAR.out _ HBW.out).mono ?_;rintro e w1 ⟨rfl,hb1⟩;have HB1:=hid (below_step HBW.out hb1);obtain⟨⟨y0,y1,y2,y3,y4⟩,-⟩:=five (HBX.out _ HB1.out);try (have c0:=HC0.out _ HB1.out))
    |(go_at_call 61;refine(HPT.out _).mono ?_;rintro e w2 ⟨rfl,hb2⟩;have HB2:=hid (below_step HB1.out hb2);obtain⟨⟨z0,z1,z2,z3,z4⟩,-⟩:=five (HBX.out _ HB2.out))
    |(go_at_call 28;refine(HTX.out _).mono ?_;rintro e w1 ⟨rfl,rfl⟩)
    |(go_at_call 56;refine(HIN.out _).mono ?_;rintro e w1 ⟨rfl,rfl⟩))
        go_ret
        first|exact⟨ret_bool HL.out.symm,HLOW.out _ HB2.out⟩|exact⟨ret_bool HL.out.symm,HLOW.out _ HB1.out⟩|exact⟨ret_bool HL.out.symm,HLOW.out _ HBW.out⟩
      ·
       have HL:Hid (Z=false):=hid (by rw [HZ.out,isTy_1];simp [pt4])
       go_wp2_with (first
    |(go_at_call 60;refine(HAR.out _ HBW.out).mono ?_;rintro e w1 ⟨rfl,hb1⟩;have HB1:=hid (below_step HBW.out hb1);obtain⟨⟨y0,y1,y2,y3,y4⟩,-⟩:=five (HBX.out _ HB1.out);try (have c0:=HC0.out _ HB1.out))
    |(go_at_call 61;refine(HPT.out _).mono ?_;rintro e w2 ⟨rfl,hb2⟩;have HB2:=hid (below_step HB1.out hb2);obtain⟨⟨z0,z1,z2,z3,z4⟩,-⟩:=five (HBX.out _ HB2.out))
    |(go_at_call 28;refine(HTX.out _).mono ?_;rintro e w1 ⟨rfl,rfl⟩)
    |(go_at_call 56;refine(HIN.out _).mono ?_;rintro e w1 ⟨rfl,rfl⟩))
       go_ret
       first|exact⟨ret_bool HL.out.symm,HLOW.out _ HB2.out⟩|exact⟨ret_bool HL.out.symm,HLOW.out _ HB1.out⟩|exact⟨ret_bool HL.out.symm,HLOW.out _ HBW.out⟩
     ·
      have ma:decide ((0:Int)<(q:Int))=true:=by simp;omega
      have mb:(0:Int)<(q:Int):=by omega
      have mc:decide (0<q)=true:=by simp;omega
      have Hm0:Hid (¬nm.length=0):=hid (by rw [←HM1.out];exact m0)
      have HL:Hid (Z=false):=hid (by rw [HZ.out,isTy_1];simp [Hm0.out])
      go_wp2_with (first
    |(go_at_call 60;refine(HAR.out _ HBW.out).mono ?_;rintro e w1 ⟨rfl,hb1⟩;have HB1:=hid (below_step HBW.out hb1);obtain⟨⟨y0,y1,y2,y3,y4⟩,-⟩:=five (HBX.out _ HB1.out);try (have c0:=HC0.out _ HB1.out))
    |(go_at_call 61;refine(HPT.out _).mono ?_;rintro e w2 ⟨rfl,hb2⟩;have HB2:=hid (below_step HB1.out hb2);obtain⟨⟨z0,z1,z2,z3,z4⟩,-⟩:=five (HBX.out _ HB2.out))
    |(go_at_call 28;refine(HTX.out _).mono ?_;rintro e w1 ⟨rfl,rfl⟩)
    |(go_at_call 56;refine(HIN.out _).mono ?_;rintro e w1 ⟨rfl,rfl⟩))
      go_ret
      first|exact⟨ret_bool HL.out.symm,HLOW.out _ HB2.out⟩|exact⟨ret_bool HL.out.symm,HLOW.out _ HB1.out⟩|exact⟨ret_bool HL.out.symm,HLOW.out _ HBW.out⟩
   have e1:(k'==1)=false:=beq_eq_false_iff_ne.2 k1
   by_cases k2:k'=2
   ·subst k2
    obtain⟨b,hb⟩:∃b,b=areB rg:=⟨_,rfl⟩
    have HAB:=hid hb
    rw [←hb]at HAR
    clear hb
    cases b
    ·
     have HL:Hid (Z=false):=hid (by rw [HZ.out,isTy_2];simp [←HAB.out])
     go_wp2_with (first
    |(go_at_call 60;refine(HAR.out _ HBW.out).mono ?_;rintro e w1 ⟨rfl,hb1⟩;have HB1:=hid (below_step HBW.out hb1);obtain⟨⟨y0,y1,y2,y3,y4⟩,-⟩:=five (HBX.out _ HB1.out);try (have c0:=HC0.out _ HB1.out))
    |(go_at_call 61;refine(HPT.out _).mono ?_;rintro e w2 ⟨rfl,hb2⟩;have HB2:=hid (below_step HB1.out hb2);obtain⟨⟨z0,z1,z2,z3,z4⟩,-⟩:=five (HBX.out _ HB2.out))
    |(go_at_call 28;refine(HTX.out _).mono ?_;rintro e w1 ⟨rfl,rfl⟩)
    |(go_at_call 56; refine (HIN.out _).mono ?_; rintro e w1 ⟨rfl, rfl⟩))
     go_ret
     first|exact⟨ret_bool HL.out.symm,HLOW.out _ HB2.out⟩|exact⟨ret_bool HL.out.symm,HLOW.out _ HB1.out⟩|exact⟨ret_bool HL.out.symm,HLOW.out _ HBW.out⟩
    ·
     by_cases n0:n=0
     ·
      have HLB:Hid (loB rg=true):=hid (by have:=HN1.out;cases rg with|nil=>rfl|cons x r=>simp at this;omega)
      subst n0
      rcases em_cases pt' with rfl|⟨pt1,pt2,pt3,pt4⟩
      ·
       by_cases m0:q=0
       ·
        have Hm0:Hid (nm.length=0):=hid (by rw [←HM1.out];exact m0)
        subst m0
        rcases em_cases ph' with rfl|⟨ph1,ph2,ph3,ph4⟩
        ·
         have HL:Hid (Z=true):=hid (by rw [HZ.out,isTy_2];simp [←HAB.out,Hm0.out,HLB.out,em_nil])
         go_wp2_with (first
    |(go_at_call 60;refine(HAR.out _ HBW.out).mono ?_;rintro e w1 ⟨rfl,hb1⟩;have HB1:=hid (below_step HBW.out hb1);obtain⟨⟨y0,y1,y2,y3,y4⟩,-⟩:=five (HBX.out _ HB1.out);try (have c0:=HC0.out _ HB1.out))
    |(go_at_call 61;refine(HPT.out _).mono ?_;rintro e w2 ⟨rfl,hb2⟩;have HB2:=hid (below_step HB1.out hb2);obtain⟨⟨z0,z1,z2,z3,z4⟩,-⟩:=five (HBX.out _ HB2.out))
    |(go_at_call 28;refine(HTX.out _).mono ?_;rintro e w1 ⟨rfl,rfl⟩)
    |(go_at_call 56;refine(HIN.out _).mono ?_;rintro e w1 ⟨rfl,rfl⟩))
         go_ret
         first|exact⟨ret_bool HL.out.symm,HLOW.out _ HB2.out⟩|exact⟨ret_bool HL.out.symm,HLOW.out _ HB1.out⟩|exact⟨ret_bool HL.out.symm,HLOW.out _ HBW.out⟩
        ·
         have HL:Hid (Z=false):=hid (by rw [HZ.out,isTy_2];simp [ph4])
         go_wp2_with (first
    |(go_at_call 60;refine(HAR.out _ HBW.out).mono ?_;rintro e w1 ⟨rfl,hb1⟩;have HB1:=hid (below_step HBW.out hb1);obtain⟨⟨y0,y1,y2,y3,y4⟩,-⟩:=five (HBX.out _ HB1.out);try (have c0:=HC0.out _ HB1.out))
    |(go_at_call 61;refine(HPT.out _).mono ?_;rintro e w2 ⟨rfl,hb2⟩;have HB2:=hid (below_step HB1.out hb2);obtain⟨⟨z0,z1,z2,z3,z4⟩,-⟩:=five (HBX.out _ HB2.out))
    |(go_at_call 28;refine(HTX.out _).mono ?_;rintro e w1 ⟨rfl,rfl⟩)
    |(go_at_call 56;refine(HIN.out _).mono ?_;rintro e w1 ⟨rfl,rfl⟩))
         go_ret
         first|exact⟨ret_bool HL.out.symm,HLOW.out _ HB2.out⟩|exact⟨ret_bool HL.out.symm,HLOW.out _ HB1.out⟩|exact⟨ret_bool HL.out.symm,HLOW.out _ HBW.out⟩
       ·
        have ma:decide ((0:Int)<(q:Int))=true:=by simp;omega
        have mb:(0:Int)<(q:Int):=by omega
        have mc:decide (0<q)=true:=by simp;omega
        have Hm0:Hid (¬nm.length=0):=hid (by rw [←HM1.out];exact m0)
        have HL:Hid (Z=false):=hid (by rw [HZ.out,isTy_2];simp [Hm0.out])
        go_wp2_with (first
    |(go_at_call 60;refine(HAR.out _ HBW.out).mono ?_;rintro e w1 ⟨rfl,hb1⟩;have HB1:=hid (below_step HBW.out hb1);obtain⟨⟨y0,y1,y2,y3,y4⟩,-⟩:=five (HBX.out _ HB1.out);try (have c0:=HC0.out _ HB1.out))
    |(go_at_call 61;refine(HPT.out _).mono ?_;rintro e w2 ⟨rfl,hb2⟩;have HB2:=hid (below_step HB1.out hb2);obtain⟨⟨z0,z1,z2,z3,z4⟩,-⟩:=five (HBX.out _ HB2.out))
    |(go_at_call 28;refine(HTX.out _).mono ?_;rintro e w1 ⟨rfl,rfl⟩)
    |(go_at_call 56;refine(HIN.out _).mono ?_;rintro e w1 ⟨rfl,rfl⟩))
        go_ret
        first|exact⟨ret_bool HL.out.symm,HLOW.out _ HB2.out⟩|exact⟨ret_bool HL.out.symm,HLOW.out _ HB1.out⟩|exact⟨ret_bool HL.out.symm,HLOW.out _ HBW.out⟩
      ·
       obtain⟨b,hb⟩:∃b,b=(patS pt'.data.toList).isSome:=⟨_,rfl⟩
       have HPB:=hid hb
       rw [←hb]at HPT
       clear hb
       cases b
       ·
        have HL:Hid (Z=false):=hid (by rw [HZ.out,isTy_2];simp [pt4,←HPB.out])
        go_wp2_with (first
    |(go_at_call 60;refine(HAR.out _ HBW.out).mono ?_;rintro e w1 ⟨rfl,hb1⟩;have HB1:=hid (below_step HBW.out hb1);obtain⟨⟨y0,y1,y2,y3,y4⟩,-⟩:=five (HBX.out _ HB1.out);try (have c0:=HC0.out _ HB1.out))
    |(go_at_call 61;refine(HPT.out _).mono ?_;rintro e w2 ⟨rfl,hb2⟩;have HB2:=hid (below_step HB1.out hb2);obtain⟨⟨z0,z1,z2,z3,z4⟩,-⟩:=five (HBX.out _ HB2.out))
    |(go_at_call 28;refine(HTX.out _).mono ?_;rintro e w1 ⟨rfl,rfl⟩)
    |(go_at_call 56;refine(HIN.out _).mono ?_;rintro e w1 ⟨rfl,rfl⟩))
        go_ret
        first|exact⟨ret_bool HL.out.symm,HLOW.out _ HB2.out⟩|exact⟨ret_bool HL.out.symm,HLOW.out _ HB1.out⟩|exact⟨ret_bool HL.out.symm,HLOW.out _ HBW.out⟩
       ·
        by_cases m0:q=0
        ·
         have Hm0:Hid (nm.length=0):=hid (by rw [←HM1.out];exact m0)
         subst m0
         rcases em_cases ph' with rfl|⟨ph1,ph2,ph3,ph4⟩
         ·
          have HL:Hid (Z=true):=hid (by rw [HZ.out,isTy_2];simp [←HAB.out,Hm0.out,HLB.out,←HPB.out,em_nil])
          go_wp2_with (first
    |(go_at_call 60;refine(HAR.out _ HBW.out).mono ?_;rintro e w1 ⟨rfl,hb1⟩;have HB1:=hid (below_step HBW.out hb1);obtain⟨⟨y0,y1,y2,y3,y4⟩,-⟩:=five (HBX.out _ HB1.out);try (have c0:=HC0.out _ HB1.out))
    |(go_at_call 61;refine(HPT.out _).mono ?_;rintro e w2 ⟨rfl,hb2⟩;have HB2:=hid (below_step HB1.out hb2);obtain⟨⟨z0,z1,z2,z3,z4⟩,-⟩:=five (HBX.out _ HB2.out))
    |(go_at_call 28;refine(HTX.out _).mono ?_;rintro e w1 ⟨rfl,rfl⟩)
    |(go_at_call 56;refine(HIN.out _).mono ?_;rintro e w1 ⟨rfl,rfl⟩))
          go_ret
          first|exact⟨ret_bool HL.out.symm,HLOW.out _ HB2.out⟩|exact⟨ret_bool HL.out.symm,HLOW.out _ HB1.out⟩|exact⟨ret_bool HL.out.symm,HLOW.out _ HBW.out⟩
         ·
          have HL:Hid (Z=false):=hid (by rw [HZ.out,isTy_2];simp [ph4])
          go_wp2_with (first
    |(go_at_call 60;refine(HAR.out _ HBW.out).mono ?_;rintro e w1 ⟨rfl,hb1⟩;have HB1:=hid (below_step HBW.out hb1);obtain⟨⟨y0,y1,y2,y3,y4⟩,-⟩:=five (HBX.out _ HB1.out);try (have c0:=HC0.out _ HB1.out))
    |(go_at_call 61;refine(HPT.out _).mono ?_;rintro e w2 ⟨rfl,hb2⟩;have HB2:=hid (below_step HB1.out hb2);obtain⟨⟨z0,z1,z2,z3,z4⟩,-⟩:=five (HBX.out _ HB2.out))
    |(go_at_call 28;refine(HTX.out _).mono ?_;rintro e w1 ⟨rfl,rfl⟩)
    |(go_at_call 56;refine(HIN.out _).mono ?_;rintro e w1 ⟨rfl,rfl⟩))
          go_ret
          first|exact⟨ret_bool HL.out.symm,HLOW.out _ HB2.out⟩|exact⟨ret_bool HL.out.symm,HLOW.out _ HB1.out⟩|exact⟨ret_bool HL.out.symm,HLOW.out _ HBW.out⟩
        ·
         have ma:decide ((0:Int)<(q:Int))=true:=by simp;omega
         have mb:(0:Int)<(q:Int):=by omega
         have mc:decide (0<q)=true:=by simp;omega
         have Hm0:Hid (¬nm.length=0):=hid (by rw [←HM1.out];exact m0)
         have HL:Hid (Z=false):=hid (by rw [HZ.out,isTy_2];simp [Hm0.out])
         go_wp2_with (first
    |(go_at_call 60;refine(HAR.out _ HBW.out).mono ?_;rintro e w1 ⟨rfl,hb1⟩;have HB1:=hid (below_step HBW.out hb1);obtain⟨⟨y0,y1,y2,y3,y4⟩,-⟩:=five (HBX.out _ HB1.out);try (have c0:=HC0.out _ HB1.out))
    |(go_at_call 61;refine(HPT.out _).mono ?_;rintro e w2 ⟨rfl,hb2⟩;have HB2:=hid (below_step HB1.out hb2);obtain⟨⟨z0,z1,z2,z3,z4⟩,-⟩:=five (HBX.out _ HB2.out))
    |(go_at_call 28;refine(HTX.out _).mono ?_;rintro e w1 ⟨rfl,rfl⟩)
    |(go_at_call 56;refine(HIN.out _).mono ?_;rintro e w1 ⟨rfl,rfl⟩))
         go_ret
         first|exact⟨ret_bool HL.out.symm,HLOW.out _ HB2.out⟩|exact⟨ret_bool HL.out.symm,HLOW.out _ HB1.out⟩|exact⟨ret_bool HL.out.symm,HLOW.out _ HBW.out⟩
     ·
      have na:decide ((0:Int)<(n:Int))=true:=by simp;omega
      have nb:(0:Int)<(n:Int):=by omega
      have nc:decide (0<n)=true:=by simp;omega
      obtain⟨x,r,hx⟩:∃x r,rg=x::r:=by have:=HN1.out;cases rg with|nil=>exact absurd this (by simpa using n0)|cons x r=>exact⟨x,r,rfl⟩
      obtain⟨a,rfl,hc0⟩:=HLO.out x r hx
      have HC0:=hid hc0
      have HLB:Hid (loB rg=decide (0≤x.lo)):=hid (by rw [hx];rfl)
      clear hc0 hx HLO
      generalize x.lo=lo at HC0 HLB
      by_cases l0:0≤lo
      ·
       have la:decide (0≤lo)=true:=by simpa using l0
       rw [la]at HLB
       rcases em_cases pt' with rfl|⟨pt1,pt2,pt3,pt4⟩
       ·
        by_cases m0:q=0
        ·
         have Hm0:Hid (nm.length=0):=hid (by rw [←HM1.out];exact m0)
         subst m0
         rcases em_cases ph' with rfl|⟨ph1,ph2,ph3,ph4⟩
         ·
          have HL:Hid (Z=true):=hid (by rw [HZ.out,isTy_2];simp [←HAB.out,Hm0.out,HLB.out,em_nil])
          go_wp2_with (first
    |(go_at_call 60;refine(HAR.out _ HBW.out).mono ?_;rintro e w1 ⟨rfl,hb1⟩;have HB1:=hid (below_step HBW.out hb1);obtain⟨⟨y0,y1,y2,y3,y4⟩,-⟩:=five (HBX.out _ HB1.out);try (have c0:=HC0.out _ HB1.out))
    |(go_at_call 61;refine(HPT.out _).mono ?_;rintro e w2 ⟨rfl,hb2⟩;have HB2:=hid (below_step HB1.out hb2);obtain⟨⟨z0,z1,z2,z3,z4⟩,-⟩:=five (HBX.out _ HB2.out))
    |(go_at_call 28;refine(HTX.out _).mono ?_;rintro e w1 ⟨rfl,rfl⟩)
    |(go_at_call 56;refine(HIN.out _).mono ?_;rintro e w1 ⟨rfl,rfl⟩))
          go_ret
          first|exact⟨ret_bool HL.out.symm,HLOW.out _ HB2.out⟩|exact⟨ret_bool HL.out.symm,HLOW.out _ HB1.out⟩|exact⟨ret_bool HL.out.symm,HLOW.out _ HBW.out⟩
         ·
          have HL:Hid (Z=false):=hid (by rw [HZ.out,isTy_2];simp [ph4])
          go_wp2_with (first
    |(go_at_call 60;refine(HAR.out _ HBW.out).mono ?_;rintro e w1 ⟨rfl,hb1⟩;have HB1:=hid (below_step HBW.out hb1);obtain⟨⟨y0,y1,y2,y3,y4⟩,-⟩:=five (HBX.out _ HB1.out);try (have c0:=HC0.out _ HB1.out))
    |(go_at_call 61;refine(HPT.out _).mono ?_;rintro e w2 ⟨rfl,hb2⟩;have HB2:=hid (below_step HB1.out hb2);obtain⟨⟨z0,z1,z2,z3,z4⟩,-⟩:=five (HBX.out _ HB2.out))
    |(go_at_call 28;refine(HTX.out _).mono ?_;rintro e w1 ⟨rfl,rfl⟩)
    |(go_at_call 56;refine(HIN.out _).mono ?_;rintro e w1 ⟨rfl,rfl⟩))
          go_ret
          first|exact⟨ret_bool HL.out.symm,HLOW.out _ HB2.out⟩|exact⟨ret_bool HL.out.symm,HLOW.out _ HB1.out⟩|exact⟨ret_bool HL.out.symm,HLOW.out _ HBW.out⟩
        ·
         have ma:decide ((0:Int)<(q:Int))=true:=by simp;omega
         have mb:(0:Int)<(q:Int):=by omega
         have mc:decide (0<q)=true:=by simp;omega
         have Hm0:Hid (¬nm.length=0):=hid (by rw [←HM1.out];exact m0)
         have HL:Hid (Z=false):=hid (by rw [HZ.out,isTy_2];simp [Hm0.out])
         go_wp2_with (first
    |(go_at_call 60;refine(HAR.out _ HBW.out).mono ?_;rintro e w1 ⟨rfl,hb1⟩;have HB1:=hid (below_step HBW.out hb1);obtain⟨⟨y0,y1,y2,y3,y4⟩,-⟩:=five (HBX.out _ HB1.out);try (have c0:=HC0.out _ HB1.out))
    |(go_at_call 61;refine(HPT.out _).mono ?_;rintro e w2 ⟨rfl,hb2⟩;have HB2:=hid (below_step HB1.out hb2);obtain⟨⟨z0,z1,z2,z3,z4⟩,-⟩:=five (HBX.out _ HB2.out))
    |(go_at_call 28;refine(HTX.out _).mono ?_;rintro e w1 ⟨rfl,rfl⟩)
    |(go_at_call 56;refine(HIN.out _).mono ?_;rintro e w1 ⟨rfl,rfl⟩))
         go_ret
         first|exact⟨ret_bool HL.out.symm,HLOW.out _ HB2.out⟩|exact⟨ret_bool HL.out.symm,HLOW.out _ HB1.out⟩|exact⟨ret_bool HL.out.symm,HLOW.out _ HBW.out⟩
       ·
        obtain⟨b,hb⟩:∃b,b=(patS pt'.data.toList).isSome:=⟨_,rfl⟩
        have HPB:=hid hb
        rw [←hb]at HPT
        clear hb
        cases b
        ·
         have HL:Hid (Z=false):=hid (by rw [HZ.out,isTy_2];simp [pt4,←HPB.out])
         go_wp2_with (first
    |(go_at_call 60;refine(HAR.out _ HBW.out).mono ?_;rintro e w1 ⟨rfl,hb1⟩;have HB1:=hid (below_step HBW.out hb1);obtain⟨⟨y0,y1,y2,y3,y4⟩,-⟩:=five (HBX.out _ HB1.out);try (have c0:=HC0.out _ HB1.out))
    |(go_at_call 61;refine(HPT.out _).mono ?_;rintro e w2 ⟨rfl,hb2⟩;have HB2:=hid (below_step HB1.out hb2);obtain⟨⟨z0,z1,z2,z3,z4⟩,-⟩:=five (HBX.out _ HB2.out))
    |(go_at_call 28;refine(HTX.out _).mono ?_;rintro e w1 ⟨rfl,rfl⟩)
    |(go_at_call 56;refine(HIN.out _).mono ?_;rintro e w1 ⟨rfl,rfl⟩))
         go_ret
         first|exact⟨ret_bool HL.out.symm,HLOW.out _ HB2.out⟩|exact⟨ret_bool HL.out.symm,HLOW.out _ HB1.out⟩|exact⟨ret_bool HL.out.symm,HLOW.out _ HBW.out⟩
        ·
         by_cases m0:q=0
         ·
          have Hm0:Hid (nm.length=0):=hid (by rw [←HM1.out];exact m0)
          subst m0
          rcases em_cases ph' with rfl|⟨ph1,ph2,ph3,ph4⟩
          ·
           have HL:Hid (Z=true):=hid (by rw [HZ.out,isTy_2];simp [←HAB.out,Hm0.out,HLB.out,←HPB.out,em_nil])
           go_wp2_with (first
    |(go_at_call 60;refine(HAR.out _ HBW.out).mono ?_;rintro e w1 ⟨rfl,hb1⟩;have HB1:=hid (below_step HBW.out hb1);obtain⟨⟨y0,y1,y2,y3,y4⟩,-⟩:=five (HBX.out _ HB1.out);try (have c0:=HC0.out _ HB1.out))
    |(go_at_call 61;refine(HPT.out _).mono ?_;rintro e w2 ⟨rfl,hb2⟩;have HB2:=hid (below_step HB1.out hb2);obtain⟨⟨z0,z1,z2,z3,z4⟩,-⟩:=five (HBX.out _ HB2.out))
    |(go_at_call 28;refine(HTX.out _).mono ?_;rintro e w1 ⟨rfl,rfl⟩)
    |(go_at_call 56; refine (HIN.out _).mono ?_; rintro e w1 ⟨rfl, rfl⟩))
           go_ret
           first|exact⟨ret_bool HL.out.symm,HLOW.out _ HB2.out⟩|exact⟨ret_bool HL.out.symm,HLOW.out _ HB1.out⟩|exact⟨ret_bool HL.out.symm,HLOW.out _ HBW.out⟩
          ·
           have HL:Hid (Z=false):=hid (by rw [HZ.out,isTy_2];simp [ph4])
           go_wp2_with (first
    |(go_at_call 60;refine(HAR.out _ HBW.out).mono ?_;rintro e w1 ⟨rfl,hb1⟩;have HB1:=hid (below_step HBW.out hb1);obtain⟨⟨y0,y1,y2,y3,y4⟩,-⟩:=five (HBX.out _ HB1.out);try (have c0:=HC0.out _ HB1.out))
    |(go_at_call 61;refine(HPT.out _).mono ?_;rintro e w2 ⟨rfl,hb2⟩;have HB2:=hid (below_step HB1.out hb2);obtain⟨⟨z0,z1,z2,z3,z4⟩,-⟩:=five (HBX.out _ HB2.out))
    |(go_at_call 28;refine(HTX.out _).mono ?_;rintro e w1 ⟨rfl,rfl⟩)
    |(go_at_call 56; refine (HIN.out _).mono ?_; rintro e w1 ⟨rfl, rfl⟩))
           go_ret
           first|exact⟨ret_bool HL.out.symm,HLOW.out _ HB2.out⟩|exact⟨ret_bool HL.out.symm,HLOW.out _ HB1.out⟩|exact⟨ret_bool HL.out.symm,HLOW.out _ HBW.out⟩
         ·
          have ma:decide ((0:Int)<(q:Int))=true:=by simp;omega
          have mb:(0:Int)<(q:Int):=by omega
          have mc:decide (0<q)=true:=by simp;omega
          have Hm0:Hid (¬nm.length=0):=hid (by rw [←HM1.out];exact m0)
          have HL:Hid (Z=false):=hid (by rw [HZ.out,isTy_2];simp [Hm0.out])
          go_wp2_with (first
    |(go_at_call 60;refine(HAR.out _ HBW.out).mono ?_;rintro e w1 ⟨rfl,hb1⟩;have HB1:=hid (below_step HBW.out hb1);obtain⟨⟨y0,y1,y2,y3,y4⟩,-⟩:=five (HBX.out _ HB1.out);try (have c0:=HC0.out _ HB1.out))
    |(go_at_call 61;refine(HPT.out _).mono ?_;rintro e w2 ⟨rfl,hb2⟩;have HB2:=hid (below_step HB1.out hb2);obtain⟨⟨z0,z1,z2,z3,z4⟩,-⟩:=five (HBX.out _ HB2.out))
    |(go_at_call 28;refine(HTX.out _).mono ?_;rintro e w1 ⟨rfl,rfl⟩)
    |(go_at_call 56;refine(HIN.out _).mono ?_;rintro e w1 ⟨rfl,rfl⟩))
          go_ret
          first|exact⟨ret_bool HL.out.symm,HLOW.out _ HB2.out⟩|exact⟨ret_bool HL.out.symm,HLOW.out _ HB1.out⟩|exact⟨ret_bool HL.out.symm,HLOW.out _ HBW.out⟩
      ·
       have la:decide (0≤lo)=false:=by simpa using l0
       rw [la]at HLB
       have HL:Hid (Z=false):=hid (by rw [HZ.out,isTy_2];simp [HLB.out])
       go_wp2_with (first
    |(go_at_call 60;refine(HAR.out _ HBW.out).mono ?_;rintro e w1 ⟨rfl,hb1⟩;have HB1:=hid (below_step HBW.out hb1);obtain⟨⟨y0,y1,y2,y3,y4⟩,-⟩:=five (HBX.out _ HB1.out);try (have c0:=HC0.out _ HB1.out))
    |(go_at_call 61;refine(HPT.out _).mono ?_;rintro e w2 ⟨rfl,hb2⟩;have HB2:=hid (below_step HB1.out hb2);obtain⟨⟨z0,z1,z2,z3,z4⟩,-⟩:=five (HBX.out _ HB2.out))
    |(go_at_call 28;refine(HTX.out _).mono ?_;rintro e w1 ⟨rfl,rfl⟩)
    |(go_at_call 56;refine(HIN.out _).mono ?_;rintro e w1 ⟨rfl,rfl⟩))
       go_ret
       first|exact⟨ret_bool HL.out.symm,HLOW.out _ HB2.out⟩|exact⟨ret_bool HL.out.symm,HLOW.out _ HB1.out⟩|exact⟨ret_bool HL.out.symm,HLOW.out _ HBW.out⟩
   have e2:(k'==2)=false:=beq_eq_false_iff_ne.2 k2
   by_cases k3:k'=3
   ·subst k3
    by_cases n0:n=0
    ·
     have Hn0:Hid (rg.length=0):=hid (by rw [←HN1.out];exact n0)
     subst n0
     by_cases m0:q=0
     ·
      have Hm0:Hid (nm.length=0):=hid (by rw [←HM1.out];exact m0)
      subst m0
      rcases em_cases pt' with rfl|⟨pt1,pt2,pt3,pt4⟩
      ·
       rcases em_cases ph' with rfl|⟨ph1,ph2,ph3,ph4⟩
       ·
        have HL:Hid (Z=true):=hid (by rw [HZ.out,isTy_3];simp [Hn0.out,Hm0.out,em_nil])
        go_wp2_with (first
    |(go_at_call 60;refine(HAR.out _ HBW.out).mono ?_;rintro e w1 ⟨rfl,hb1⟩;have HB1:=hid (below_step HBW.out hb1);obtain⟨⟨y0,y1,y2,y3,y4⟩,-⟩:=five (HBX.out _ HB1.out);try (have c0:=HC0.out _ HB1.out))
    |(go_at_call 61;refine(HPT.out _).mono ?_;rintro e w2 ⟨rfl,hb2⟩;have HB2:=hid (below_step HB1.out hb2);obtain⟨⟨z0,z1,z2,z3,z4⟩,-⟩:=five (HBX.out _ HB2.out))
    |(go_at_call 28;refine(HTX.out _).mono ?_;rintro e w1 ⟨rfl,rfl⟩)
    |(go_at_call 56;refine(HIN.out _).mono ?_;rintro e w1 ⟨rfl,rfl⟩))
        go_ret
        first|exact⟨ret_bool HL.out.symm,HLOW.out _ HB2.out⟩|exact⟨ret_bool HL.out.symm,HLOW.out _ HB1.out⟩|exact⟨ret_bool HL.out.symm,HLOW.out _ HBW.out⟩
       ·
        have HL:Hid (Z=false):=hid (by rw [HZ.out,isTy_3];simp [ph4])
        go_wp2_with (first
    |(go_at_call 60;refine(HAR.out _ HBW.out).mono ?_;rintro e w1 ⟨rfl,hb1⟩;have HB1:=hid (below_step HBW.out hb1);obtain⟨⟨y0,y1,y2,y3,y4⟩,-⟩:=five (HBX.out _ HB1.out);try (have c0:=HC0.out _ HB1.out))
    |(go_at_call 61;refine(HPT.out _).mono ?_;rintro e w2 ⟨rfl,hb2⟩;have HB2:=hid (below_step HB1.out hb2);obtain⟨⟨z0,z1,z2,z3,z4⟩,-⟩:=five (HBX.out _ HB2.out))
    |(go_at_call 28;refine(HTX.out _).mono ?_;rintro e w1 ⟨rfl,rfl⟩)
    |(go_at_call 56;refine(HIN.out _).mono ?_;rintro e w1 ⟨rfl,rfl⟩))
        go_ret
        first|exact⟨ret_bool HL.out.symm,HLOW.out _ HB2.out⟩|exact⟨ret_bool HL.out.symm,HLOW.out _ HB1.out⟩|exact⟨ret_bool HL.out.symm,HLOW.out _ HBW.out⟩
      ·
       have HL:Hid (Z=false):=hid (by rw [HZ.out,isTy_3];simp [pt4])
       go_wp2_with (first
    |(go_at_call 60;refine(HAR.out _ HBW.out).mono ?_;rintro e w1 ⟨rfl,hb1⟩;have HB1:=hid (below_step HBW.out hb1);obtain⟨⟨y0,y1,y2,y3,y4⟩,-⟩:=five (HBX.out _ HB1.out);try (have c0:=HC0.out _ HB1.out))
    |(go_at_call 61;refine(HPT.out _).mono ?_;rintro e w2 ⟨rfl,hb2⟩;have HB2:=hid (below_step HB1.out hb2);obtain⟨⟨z0,z1,z2,z3,z4⟩,-⟩:=five (HBX.out _ HB2.out))
    |(go_at_call 28;refine(HTX.out _).mono ?_;rintro e w1 ⟨rfl,rfl⟩)
    |(go_at_call 56;refine(HIN.out _).mono ?_;rintro e w1 ⟨rfl,rfl⟩))
       go_ret
       first|exact⟨ret_bool HL.out.symm,HLOW.out _ HB2.out⟩|exact⟨ret_bool HL.out.symm,HLOW.out _ HB1.out⟩|exact⟨ret_bool HL.out.symm,HLOW.out _ HBW.out⟩
     ·
      have ma:decide ((0:Int)<(q:Int))=true:=by simp;omega
      have mb:(0:Int)<(q:Int):=by omega
      have mc:decide (0<q)=true:=by simp;omega
      have Hm0:Hid (¬nm.length=0):=hid (by rw [←HM1.out];exact m0)
      have HL:Hid (Z=false):=hid (by rw [HZ.out,isTy_3];simp [Hm0.out])
      go_wp2_with (first
    |(go_at_call 60;refine(HAR.out _ HBW.out).mono ?_;rintro e w1 ⟨rfl,hb1⟩;have HB1:=hid (below_step HBW.out hb1);obtain⟨⟨y0,y1,y2,y3,y4⟩,-⟩:=five (HBX.out _ HB1.out);try (have c0:=HC0.out _ HB1.out))
    |(go_at_call 61;refine(HPT.out _).mono ?_;rintro e w2 ⟨rfl,hb2⟩;have HB2:=hid (below_step HB1.out hb2);obtain⟨⟨z0,z1,z2,z3,z4⟩,-⟩:=five (HBX.out _ HB2.out))
    |(go_at_call 28;refine(HTX.out _).mono ?_;rintro e w1 ⟨rfl,rfl⟩)
    |(go_at_call 56;refine(HIN.out _).mono ?_;rintro e w1 ⟨rfl,rfl⟩))
      go_ret
      first|exact⟨ret_bool HL.out.symm,HLOW.out _ HB2.out⟩|exact⟨ret_bool HL.out.symm,HLOW.out _ HB1.out⟩|exact⟨ret_bool HL.out.symm,HLOW.out _ HBW.out⟩
    ·
     have na:decide ((0:Int)<(n:Int))=true:=by simp;omega
     have nb:(0:Int)<(n:Int):=by omega
     have nc:decide (0<n)=true:=by simp;omega
     have Hn0:Hid (¬rg.length=0):=hid (by rw [←HN1.out];exact n0)
     have HL:Hid (Z=false):=hid (by rw [HZ.out,isTy_3];simp [Hn0.out])
     go_wp2_with (first
    |(go_at_call 60;refine(HAR.out _ HBW.out).mono ?_;rintro e w1 ⟨rfl,hb1⟩;have HB1:=hid (below_step HBW.out hb1);obtain⟨⟨y0,y1,y2,y3,y4⟩,-⟩:=five (HBX.out _ HB1.out);try (have c0:=HC0.out _ HB1.out))
    |(go_at_call 61;refine(HPT.out _).mono ?_;rintro e w2 ⟨rfl,hb2⟩;have HB2:=hid (below_step HB1.out hb2);obtain⟨⟨z0,z1,z2,z3,z4⟩,-⟩:=five (HBX.out _ HB2.out))
    |(go_at_call 28;refine(HTX.out _).mono ?_;rintro e w1 ⟨rfl,rfl⟩)
    |(go_at_call 56; refine (HIN.out _).mono ?_; rintro e w1 ⟨rfl, rfl⟩))
     go_ret
     first|exact⟨ret_bool HL.out.symm,HLOW.out _ HB2.out⟩|exact⟨ret_bool HL.out.symm,HLOW.out _ HB1.out⟩|exact⟨ret_bool HL.out.symm,HLOW.out _ HBW.out⟩
   have e3:(k'==3)=false:=beq_eq_false_iff_ne.2 k3
   by_cases k4:k'=4
   ·subst k4
    have HIN:=hid (fun w=>sIn_any (q:Int) 1 6 w)
    by_cases r0:1≤(q:Int)∧(q:Int)≤6
    ·
     rw [show decide (1≤(q:Int)∧(q:Int)≤6)=true by simpa using r0]at HIN
     have HR:Hid (decide (0<nm.length∧nm.length≤6)=true):=hid (by rw [←HM1.out];simp;omega)
     by_cases n0:n=0
     ·
      have Hn0:Hid (rg.length=0):=hid (by rw [←HN1.out];exact n0)
      subst n0
      rcases em_cases pt' with rfl|⟨pt1,pt2,pt3,pt4⟩
      ·
       rcases em_cases ph' with rfl|⟨ph1,ph2,ph3,ph4⟩
       ·
        have HL:Hid (Z=true):=hid (by rw [HZ.out,isTy_4 _ _ _ _ HNS.out,HR.out];simp [Hn0.out,em_nil])
        go_wp2_with (first
    |(go_at_call 60;refine(HAR.out _ HBW.out).mono ?_;rintro e w1 ⟨rfl,hb1⟩;have HB1:=hid (below_step HBW.out hb1);obtain⟨⟨y0,y1,y2,y3,y4⟩,-⟩:=five (HBX.out _ HB1.out);try (have c0:=HC0.out _ HB1.out))
    |(go_at_call 61;refine(HPT.out _).mono ?_;rintro e w2 ⟨rfl,hb2⟩;have HB2:=hid (below_step HB1.out hb2);obtain⟨⟨z0,z1,z2,z3,z4⟩,-⟩:=five (HBX.out _ HB2.out))
    |(go_at_call 28;refine(HTX.out _).mono ?_;rintro e w1 ⟨rfl,rfl⟩)
    |(go_at_call 56;refine(HIN.out _).mono ?_;rintro e w1 ⟨rfl,rfl⟩))
        go_ret
        first|exact⟨ret_bool HL.out.symm,HLOW.out _ HB2.out⟩|exact⟨ret_bool HL.out.symm,HLOW.out _ HB1.out⟩|exact⟨ret_bool HL.out.symm,HLOW.out _ HBW.out⟩
       ·
        have HL:Hid (Z=false):=hid (by rw [HZ.out,isTy_4 _ _ _ _ HNS.out];simp [ph4])
        go_wp2_with (first
    |(go_at_call 60;refine(HAR.out _ HBW.out).mono ?_;rintro e w1 ⟨rfl,hb1⟩;have HB1:=hid (below_step HBW.out hb1);obtain⟨⟨y0,y1,y2,y3,y4⟩,-⟩:=five (HBX.out _ HB1.out);try (have c0:=HC0.out _ HB1.out))
    |(go_at_call 61;refine(HPT.out _).mono ?_;rintro e w2 ⟨rfl,hb2⟩;have HB2:=hid (below_step HB1.out hb2);obtain⟨⟨z0,z1,z2,z3,z4⟩,-⟩:=five (HBX.out _ HB2.out))
    |(go_at_call 28;refine(HTX.out _).mono ?_;rintro e w1 ⟨rfl,rfl⟩)
    |(go_at_call 56;refine(HIN.out _).mono ?_;rintro e w1 ⟨rfl,rfl⟩))
        go_ret
        first|exact⟨ret_bool HL.out.symm,HLOW.out _ HB2.out⟩|exact⟨ret_bool HL.out.symm,HLOW.out _ HB1.out⟩|exact⟨ret_bool HL.out.symm,HLOW.out _ HBW.out⟩
      ·
       have HL:Hid (Z=false):=hid (by rw [HZ.out,isTy_4 _ _ _ _ HNS.out];simp [pt4])
       go_wp2_with (first
    |(go_at_call 60;refine(HAR.out _ HBW.out).mono ?_;rintro e w1 ⟨rfl,hb1⟩;have HB1:=hid (below_step HBW.out hb1);obtain⟨⟨y0,y1,y2,y3,y4⟩,-⟩:=five (HBX.out _ HB1.out);try (have c0:=HC0.out _ HB1.out))
    |(go_at_call 61;refine(HPT.out _).mono ?_;rintro e w2 ⟨rfl,hb2⟩;have HB2:=hid (below_step HB1.out hb2);obtain⟨⟨z0,z1,z2,z3,z4⟩,-⟩:=five (HBX.out _ HB2.out))
    |(go_at_call 28;refine(HTX.out _).mono ?_;rintro e w1 ⟨rfl,rfl⟩)
    |(go_at_call 56;refine(HIN.out _).mono ?_;rintro e w1 ⟨rfl,rfl⟩))
       go_ret
       first|exact⟨ret_bool HL.out.symm,HLOW.out _ HB2.out⟩|exact⟨ret_bool HL.out.symm,HLOW.out _ HB1.out⟩|exact⟨ret_bool HL.out.symm,HLOW.out _ HBW.out⟩
     ·
      have na:decide ((0:Int)<(n:Int))=true:=by simp;omega
      have nb:(0:Int)<(n:Int):=by omega
      have nc:decide (0<n)=true:=by simp;omega
      have Hn0:Hid (¬rg.length=0):=hid (by rw [←HN1.out];exact n0)
      have HL:Hid (Z=false):=hid (by rw [HZ.out,isTy_4 _ _ _ _ HNS.out];simp [Hn0.out])
      go_wp2_with (first
    |(go_at_call 60;refine(HAR.out _ HBW.out).mono ?_;rintro e w1 ⟨rfl,hb1⟩;have HB1:=hid (below_step HBW.out hb1);obtain⟨⟨y0,y1,y2,y3,y4⟩,-⟩:=five (HBX.out _ HB1.out);try (have c0:=HC0.out _ HB1.out))
    |(go_at_call 61;refine(HPT.out _).mono ?_;rintro e w2 ⟨rfl,hb2⟩;have HB2:=hid (below_step HB1.out hb2);obtain⟨⟨z0,z1,z2,z3,z4⟩,-⟩:=five (HBX.out _ HB2.out))
    |(go_at_call 28;refine(HTX.out _).mono ?_;rintro e w1 ⟨rfl,rfl⟩)
    |(go_at_call 56;refine(HIN.out _).mono ?_;rintro e w1 ⟨rfl,rfl⟩))
      go_ret
      first|exact⟨ret_bool HL.out.symm,HLOW.out _ HB2.out⟩|exact⟨ret_bool HL.out.symm,HLOW.out _ HB1.out⟩|exact⟨ret_bool HL.out.symm,HLOW.out _ HBW.out⟩
    ·
     rw [show decide (1≤(q:Int)∧(q:Int)≤6)=false by simpa using r0]at HIN
     have HR:Hid (decide (0<nm.length∧nm.length≤6)=false):=hid (by rw [←HM1.out];simp;omega)
     have HL:Hid (Z=false):=hid (by rw [HZ.out,isTy_4 _ _ _ _ HNS.out,HR.out];simp)
     go_wp2_with (first
    |(go_at_call 60;refine(HAR.out _ HBW.out).mono ?_;rintro e w1 ⟨rfl,hb1⟩;have HB1:=hid (below_step HBW.out hb1);obtain⟨⟨y0,y1,y2,y3,y4⟩,-⟩:=five (HBX.out _ HB1.out);try (have c0:=HC0.out _ HB1.out))
    |(go_at_call 61;refine(HPT.out _).mono ?_;rintro e w2 ⟨rfl,hb2⟩;have HB2:=hid (below_step HB1.out hb2);obtain⟨⟨z0,z1,z2,z3,z4⟩,-⟩:=five (HBX.out _ HB2.out))
    |(go_at_call 28;refine(HTX.out _).mono ?_;rintro e w1 ⟨rfl,rfl⟩)
    |(go_at_call 56; refine (HIN.out _).mono ?_; rintro e w1 ⟨rfl, rfl⟩))
     go_ret
     first|exact⟨ret_bool HL.out.symm,HLOW.out _ HB2.out⟩|exact⟨ret_bool HL.out.symm,HLOW.out _ HB1.out⟩|exact⟨ret_bool HL.out.symm,HLOW.out _ HBW.out⟩
   have e4:(k'==4)=false:=beq_eq_false_iff_ne.2 k4
   by_cases k5:k'=5
   ·subst k5
    obtain⟨b,hb⟩:∃b,b=textB ph':=⟨_,rfl⟩
    have HTB:=hid hb
    rw [←hb]at HTX
    clear hb
    cases b
    ·
     have HL:Hid (Z=false):=hid (by rw [HZ.out,isTy_5];simp [←HTB.out])
     go_wp2_with (first
    |(go_at_call 60;refine(HAR.out _ HBW.out).mono ?_;rintro e w1 ⟨rfl,hb1⟩;have HB1:=hid (below_step HBW.out hb1);obtain⟨⟨y0,y1,y2,y3,y4⟩,-⟩:=five (HBX.out _ HB1.out);try (have c0:=HC0.out _ HB1.out))
    |(go_at_call 61;refine(HPT.out _).mono ?_;rintro e w2 ⟨rfl,hb2⟩;have HB2:=hid (below_step HB1.out hb2);obtain⟨⟨z0,z1,z2,z3,z4⟩,-⟩:=five (HBX.out _ HB2.out))
    |(go_at_call 28;refine(HTX.out _).mono ?_;rintro e w1 ⟨rfl,rfl⟩)
    |(go_at_call 56; refine (HIN.out _).mono ?_; rintro e w1 ⟨rfl, rfl⟩))
     go_ret
     first|exact⟨ret_bool HL.out.symm,HLOW.out _ HB2.out⟩|exact⟨ret_bool HL.out.symm,HLOW.out _ HB1.out⟩|exact⟨ret_bool HL.out.symm,HLOW.out _ HBW.out⟩
    ·
     rcases em_cases ph' with rfl|⟨ph1,ph2,ph3,ph4⟩
     ·
      have HL:Hid (Z=false):=hid (by rw [HZ.out,isTy_5];simp [em_nil])
      go_wp2_with (first
    |(go_at_call 60;refine(HAR.out _ HBW.out).mono ?_;rintro e w1 ⟨rfl,hb1⟩;have HB1:=hid (below_step HBW.out hb1);obtain⟨⟨y0,y1,y2,y3,y4⟩,-⟩:=five (HBX.out _ HB1.out);try (have c0:=HC0.out _ HB1.out))
    |(go_at_call 61;refine(HPT.out _).mono ?_;rintro e w2 ⟨rfl,hb2⟩;have HB2:=hid (below_step HB1.out hb2);obtain⟨⟨z0,z1,z2,z3,z4⟩,-⟩:=five (HBX.out _ HB2.out))
    |(go_at_call 28;refine(HTX.out _).mono ?_;rintro e w1 ⟨rfl,rfl⟩)
    |(go_at_call 56;refine(HIN.out _).mono ?_;rintro e w1 ⟨rfl,rfl⟩))
      go_ret
      first|exact⟨ret_bool HL.out.symm,HLOW.out _ HB2.out⟩|exact⟨ret_bool HL.out.symm,HLOW.out _ HB1.out⟩|exact⟨ret_bool HL.out.symm,HLOW.out _ HBW.out⟩
     ·
      by_cases n0:n=0
      ·
       have Hn0:Hid (rg.length=0):=hid (by rw [←HN1.out];exact n0)
       subst n0
       by_cases m0:q=0
       ·
        have Hm0:Hid (nm.length=0):=hid (by rw [←HM1.out];exact m0)
        subst m0
        rcases em_cases pt' with rfl|⟨pt1,pt2,pt3,pt4⟩
        ·
         have HL:Hid (Z=true):=hid (by rw [HZ.out,isTy_5];simp [←HTB.out,ph4,Hn0.out,Hm0.out,em_nil])
         go_wp2_with (first
    |(go_at_call 60;refine(HAR.out _ HBW.out).mono ?_;rintro e w1 ⟨rfl,hb1⟩;have HB1:=hid (below_step HBW.out hb1);obtain⟨⟨y0,y1,y2,y3,y4⟩,-⟩:=five (HBX.out _ HB1.out);try (have c0:=HC0.out _ HB1.out))
    |(go_at_call 61;refine(HPT.out _).mono ?_;rintro e w2 ⟨rfl,hb2⟩;have HB2:=hid (below_step HB1.out hb2);obtain⟨⟨z0,z1,z2,z3,z4⟩,-⟩:=five (HBX.out _ HB2.out))
    |(go_at_call 28;refine(HTX.out _).mono ?_;rintro e w1 ⟨rfl,rfl⟩)
    |(go_at_call 56;refine(HIN.out _).mono ?_;rintro e w1 ⟨rfl,rfl⟩))
         go_ret
         first|exact⟨ret_bool HL.out.symm,HLOW.out _ HB2.out⟩|exact⟨ret_bool HL.out.symm,HLOW.out _ HB1.out⟩|exact⟨ret_bool HL.out.symm,HLOW.out _ HBW.out⟩
        ·
         have HL:Hid (Z=false):=hid (by rw [HZ.out,isTy_5];simp [pt4])
         go_wp2_with (first
    |(go_at_call 60;refine(HAR.out _ HBW.out).mono ?_;rintro e w1 ⟨rfl,hb1⟩;have HB1:=hid (below_step HBW.out hb1);obtain⟨⟨y0,y1,y2,y3,y4⟩,-⟩:=five (HBX.out _ HB1.out);try (have c0:=HC0.out _ HB1.out))
    |(go_at_call 61;refine(HPT.out _).mono ?_;rintro e w2 ⟨rfl,hb2⟩;have HB2:=hid (below_step HB1.out hb2);obtain⟨⟨z0,z1,z2,z3,z4⟩,-⟩:=five (HBX.out _ HB2.out))
    |(go_at_call 28;refine(HTX.out _).mono ?_;rintro e w1 ⟨rfl,rfl⟩)
    |(go_at_call 56;refine(HIN.out _).mono ?_;rintro e w1 ⟨rfl,rfl⟩))
         go_ret
         first|exact⟨ret_bool HL.out.symm,HLOW.out _ HB2.out⟩|exact⟨ret_bool HL.out.symm,HLOW.out _ HB1.out⟩|exact⟨ret_bool HL.out.symm,HLOW.out _ HBW.out⟩
       ·
        have ma:decide ((0:Int)<(q:Int))=true:=by simp;omega
        have mb:(0:Int)<(q:Int):=by omega
        have mc:decide (0<q)=true:=by simp;omega
        have Hm0:Hid (¬nm.length=0):=hid (by rw [←HM1.out];exact m0)
        have HL:Hid (Z=false):=hid (by rw [HZ.out,isTy_5];simp [Hm0.out])
        go_wp2_with (first
    |(go_at_call 60;refine(HAR.out _ HBW.out).mono ?_;rintro e w1 ⟨rfl,hb1⟩;have HB1:=hid (below_step HBW.out hb1);obtain⟨⟨y0,y1,y2,y3,y4⟩,-⟩:=five (HBX.out _ HB1.out);try (have c0:=HC0.out _ HB1.out))
    |(go_at_call 61;refine(HPT.out _).mono ?_;rintro e w2 ⟨rfl,hb2⟩;have HB2:=hid (below_step HB1.out hb2);obtain⟨⟨z0,z1,z2,z3,z4⟩,-⟩:=five (HBX.out _ HB2.out))
    |(go_at_call 28;refine(HTX.out _).mono ?_;rintro e w1 ⟨rfl,rfl⟩)
    |(go_at_call 56;refine(HIN.out _).mono ?_;rintro e w1 ⟨rfl,rfl⟩))
        go_ret
        first|exact⟨ret_bool HL.out.symm,HLOW.out _ HB2.out⟩|exact⟨ret_bool HL.out.symm,HLOW.out _ HB1.out⟩|exact⟨ret_bool HL.out.symm,HLOW.out _ HBW.out⟩
      ·
       have na:decide ((0:Int)<(n:Int))=true:=by simp;omega
       have nb:(0:Int)<(n:Int):=by omega
       have nc:decide (0<n)=true:=by simp;omega
       have Hn0:Hid (¬rg.length=0):=hid (by rw [←HN1.out];exact n0)
       have HL:Hid (Z=false):=hid (by rw [HZ.out,isTy_5];simp [Hn0.out])
       go_wp2_with (first
    |(go_at_call 60;refine(HAR.out _ HBW.out).mono ?_;rintro e w1 ⟨rfl,hb1⟩;have HB1:=hid (below_step HBW.out hb1);obtain⟨⟨y0,y1,y2,y3,y4⟩,-⟩:=five (HBX.out _ HB1.out);try (have c0:=HC0.out _ HB1.out))
    |(go_at_call 61;refine(HPT.out _).mono ?_;rintro e w2 ⟨rfl,hb2⟩;have HB2:=hid (below_step HB1.out hb2);obtain⟨⟨z0,z1,z2,z3,z4⟩,-⟩:=five (HBX.out _ HB2.out))
    |(go_at_call 28;refine(HTX.out _).mono ?_;rintro e w1 ⟨rfl,rfl⟩)
    |(go_at_call 56;refine(HIN.out _).mono ?_;rintro e w1 ⟨rfl,rfl⟩))
       go_ret
       first|exact⟨ret_bool HL.out.symm,HLOW.out _ HB2.out⟩|exact⟨ret_bool HL.out.symm,HLOW.out _ HB1.out⟩|exact⟨ret_bool HL.out.symm,HLOW.out _ HBW.out⟩
   have e5:(k'==5)=false:=beq_eq_false_iff_ne.2 k5
   by_cases k6:k'=6
   ·subst k6
    by_cases n0:n=0
    ·
     have Hn0:Hid (rg.length=0):=hid (by rw [←HN1.out];exact n0)
     subst n0
     by_cases m0:q=0
     ·
      have Hm0:Hid (nm.length=0):=hid (by rw [←HM1.out];exact m0)
      subst m0
      rcases em_cases pt' with rfl|⟨pt1,pt2,pt3,pt4⟩
      ·
       rcases em_cases ph' with rfl|⟨ph1,ph2,ph3,ph4⟩
       ·
        have HL:Hid (Z=true):=hid (by rw [HZ.out,isTy_6];simp [Hn0.out,Hm0.out,em_nil])
        go_wp2_with (first
    |(go_at_call 60;refine(HAR.out _ HBW.out).mono ?_;rintro e w1 ⟨rfl,hb1⟩;have HB1:=hid (below_step HBW.out hb1);obtain⟨⟨y0,y1,y2,y3,y4⟩,-⟩:=five (HBX.out _ HB1.out);try (have c0:=HC0.out _ HB1.out))
    |(go_at_call 61;refine(HPT.out _).mono ?_;rintro e w2 ⟨rfl,hb2⟩;have HB2:=hid (below_step HB1.out hb2);obtain⟨⟨z0,z1,z2,z3,z4⟩,-⟩:=five (HBX.out _ HB2.out))
    |(go_at_call 28;refine(HTX.out _).mono ?_;rintro e w1 ⟨rfl,rfl⟩)
    |(go_at_call 56;refine(HIN.out _).mono ?_;rintro e w1 ⟨rfl,rfl⟩))
        go_ret
        first|exact⟨ret_bool HL.out.symm,HLOW.out _ HB2.out⟩|exact⟨ret_bool HL.out.symm,HLOW.out _ HB1.out⟩|exact⟨ret_bool HL.out.symm,HLOW.out _ HBW.out⟩
       ·
        have HL:Hid (Z=false):=hid (by rw [HZ.out,isTy_6];simp [ph4])
        go_wp2_with (first
    |(go_at_call 60;refine(HAR.out _ HBW.out).mono ?_;rintro e w1 ⟨rfl,hb1⟩;have HB1:=hid (below_step HBW.out hb1);obtain⟨⟨y0,y1,y2,y3,y4⟩,-⟩:=five (HBX.out _ HB1.out);try (have c0:=HC0.out _ HB1.out))
    |(go_at_call 61;refine(HPT.out _).mono ?_;rintro e w2 ⟨rfl,hb2⟩;have HB2:=hid (below_step HB1.out hb2);obtain⟨⟨z0,z1,z2,z3,z4⟩,-⟩:=five (HBX.out _ HB2.out))
    |(go_at_call 28;refine(HTX.out _).mono ?_;rintro e w1 ⟨rfl,rfl⟩)
    |(go_at_call 56;refine(HIN.out _).mono ?_;rintro e w1 ⟨rfl,rfl⟩))
        go_ret
        first|exact⟨ret_bool HL.out.symm,HLOW.out _ HB2.out⟩|exact⟨ret_bool HL.out.symm,HLOW.out _ HB1.out⟩|exact⟨ret_bool HL.out.symm,HLOW.out _ HBW.out⟩
      ·
       have HL:Hid (Z=false):=hid (by rw [HZ.out,isTy_6];simp [pt4])
       go_wp2_with (first
    |(go_at_call 60;refine(HAR.out _ HBW.out).mono ?_;rintro e w1 ⟨rfl,hb1⟩;have HB1:=hid (below_step HBW.out hb1);obtain⟨⟨y0,y1,y2,y3,y4⟩,-⟩:=five (HBX.out _ HB1.out);try (have c0:=HC0.out _ HB1.out))
    |(go_at_call 61;refine(HPT.out _).mono ?_;rintro e w2 ⟨rfl,hb2⟩;have HB2:=hid (below_step HB1.out hb2);obtain⟨⟨z0,z1,z2,z3,z4⟩,-⟩:=five (HBX.out _ HB2.out))
    |(go_at_call 28;refine(HTX.out _).mono ?_;rintro e w1 ⟨rfl,rfl⟩)
    |(go_at_call 56;refine(HIN.out _).mono ?_;rintro e w1 ⟨rfl,rfl⟩))
       go_ret
       first|exact⟨ret_bool HL.out.symm,HLOW.out _ HB2.out⟩|exact⟨ret_bool HL.out.symm,HLOW.out _ HB1.out⟩|exact⟨ret_bool HL.out.symm,HLOW.out _ HBW.out⟩
     ·
      have ma:decide ((0:Int)<(q:Int))=true:=by simp;omega
      have mb:(0:Int)<(q:Int):=by omega
      have mc:decide (0<q)=true:=by simp;omega
      have Hm0:Hid (¬nm.length=0):=hid (by rw [←HM1.out];exact m0)
      have HL:Hid (Z=false):=hid (by rw [HZ.out,isTy_6];simp [Hm0.out])
      go_wp2_with (first
    |(go_at_call 60;refine(HAR.out _ HBW.out).mono ?_;rintro e w1 ⟨rfl,hb1⟩;have HB1:=hid (below_step HBW.out hb1);obtain⟨⟨y0,y1,y2,y3,y4⟩,-⟩:=five (HBX.out _ HB1.out);try (have c0:=HC0.out _ HB1.out))
    |(go_at_call 61;refine(HPT.out _).mono ?_;rintro e w2 ⟨rfl,hb2⟩;have HB2:=hid (below_step HB1.out hb2);obtain⟨⟨z0,z1,z2,z3,z4⟩,-⟩:=five (HBX.out _ HB2.out))
    |(go_at_call 28;refine(HTX.out _).mono ?_;rintro e w1 ⟨rfl,rfl⟩)
    |(go_at_call 56;refine(HIN.out _).mono ?_;rintro e w1 ⟨rfl,rfl⟩))
      go_ret
      first|exact⟨ret_bool HL.out.symm,HLOW.out _ HB2.out⟩|exact⟨ret_bool HL.out.symm,HLOW.out _ HB1.out⟩|exact⟨ret_bool HL.out.symm,HLOW.out _ HBW.out⟩
    ·
     have na:decide ((0:Int)<(n:Int))=true:=by simp;omega
     have nb:(0:Int)<(n:Int):=by omega
     have nc:decide (0<n)=true:=by simp;omega
     have Hn0:Hid (¬rg.length=0):=hid (by rw [←HN1.out];exact n0)
     have HL:Hid (Z=false):=hid (by rw [HZ.out,isTy_6];simp [Hn0.out])
     go_wp2_with (first
    |(go_at_call 60;refine(HAR.out _ HBW.out).mono ?_;rintro e w1 ⟨rfl,hb1⟩;have HB1:=hid (below_step HBW.out hb1);obtain⟨⟨y0,y1,y2,y3,y4⟩,-⟩:=five (HBX.out _ HB1.out);try (have c0:=HC0.out _ HB1.out))
    |(go_at_call 61;refine(HPT.out _).mono ?_;rintro e w2 ⟨rfl,hb2⟩;have HB2:=hid (below_step HB1.out hb2);obtain⟨⟨z0,z1,z2,z3,z4⟩,-⟩:=five (HBX.out _ HB2.out))
    |(go_at_call 28;refine(HTX.out _).mono ?_;rintro e w1 ⟨rfl,rfl⟩)
    |(go_at_call 56; refine (HIN.out _).mono ?_; rintro e w1 ⟨rfl, rfl⟩))
     go_ret
     first|exact⟨ret_bool HL.out.symm,HLOW.out _ HB2.out⟩|exact⟨ret_bool HL.out.symm,HLOW.out _ HB1.out⟩|exact⟨ret_bool HL.out.symm,HLOW.out _ HBW.out⟩
   have e6:(k'==6)=false:=beq_eq_false_iff_ne.2 k6
   have HL:Hid (Z=false):=hid (by rw [HZ.out];exact isTy_other _ _ _ _ ⟨k1,k2,k3,k4,k5,k6⟩)
   go_wp2
   go_ret
   exact⟨ret_bool HL.out.symm,HLOW.out _ HBW.out⟩
end
section
open Go.RowKit Go.Sort Go.Shelf

section
variable {α:Type} [Inhabited α] {enc:α→List Value} {z E B g c n:Nat} {w:World} {l:List α}
theorem flatK_list (hz:∀x,(enc x).length=z)(h0:0<z)(l:List α):(flatK enc z l.toArray).toList=l.flatMap enc:=by
 apply List.ext_getElem?
 intro j
 by_cases hj:j<l.length*z
 ·have hd:j / z<l.length:=(Nat.div_lt_iff_lt_mul h0).2 hj
  have hm:j % z<z:=Nat.mod_lt _ h0
  have hx:(enc (l[j / z]'hd))[j % z]? =some ((enc (l[j / z]'hd))[j % z]'(by rw [hz];exact hm)):=List.getElem?_eq_getElem _
  have h1:=flat_get (l:=l) hz hd hx
  rw [show j / z*z+j % z=j by rw [Nat.mul_comm];exact Nat.div_add_mod j z]at h1
  rw [h1]
  simp [flatK,hj,hd,hz,hm]
 ·rw [List.getElem?_eq_none (by simp;omega),List.getElem?_eq_none (by rw [flat_len hz];omega)]
theorem RowR.holdsK (hz:∀x,(enc x).length=z)(h0:0<z)(h:RowR enc z E B w (.slice (some ⟨g,0,none⟩) n c) l):HoldsK enc z w g 0 l.toArray:=by
 intro j hj
 rw [size_flatK]at hj
 have hd:j / z<l.length:=(Nat.div_lt_iff_lt_mul h0).2 (by simpa using hj)
 have hm:j % z<z:=Nat.mod_lt _ h0
 have hx:(enc (l[j / z]'hd))[j % z]? =some ((enc (l[j / z]'hd))[j % z]'(by rw [hz];exact hm)):=List.getElem?_eq_getElem _
 have h1:=h.cell hz hd hx
 rw [show j / z*z+j % z=j by rw [Nat.mul_comm];exact Nat.div_add_mod j z]at h1
 rw [Nat.zero_add]
 refine⟨?_,h.frozen j⟩
 rw [h1,get_flatK _ _ _ _ (by simpa using hj)]
 simp [hd,hz,hm]
theorem heap_sortedK {m:Nat}{os:Array Obj}{cur:Array Value}{e:TypeId}{fr:Nat×Nat}(d:Array α)(hb:w.heap[g]? =some (.cells cur e fr)):
  (sortWorldK enc z w g 0 m d os).heap[g]? =some (.cells (putCells id 0 (flatK enc z d) cur) e fr):=by
 have hg:g<w.heap.size:=(Array.getElem?_eq_some_iff.1 hb).1
 unfold sortWorldK putRowK
 rw [heap_grow_old _ _ (by simpa using hg)]
 simp [putRow,mapBlock,Sort.ahead,Array.getElem?_modify,hb,onCells]
theorem grownBy_sortedK {m:Nat}{os:Array Obj}(d:Array α):w.grownBy (sortWorldK enc z w g 0 m d os) (some g):=by
 unfold sortWorldK putRowK
 refine⟨rfl,rfl,rfl,by simp,fun k hk hne=>?_⟩
 rw [heap_grow_old _ _ (by simpa using hk)]
 have:g≠k:=fun e=>hne (by rw [e])
 simp [putRow,mapBlock,Sort.ahead,Array.getElem?_modify,this]
theorem RowR.sortedK (hz:∀x,(enc x).length=z)(h0:0<z)(h:RowR enc z E B w (.slice (some ⟨g,0,none⟩) n c) l){m:Nat}{os:Array Obj}(l':List α)(hl:l'.length=l.length):
  RowR enc z E B (sortWorldK enc z w g 0 m l'.toArray os) (.slice (some ⟨g,0,none⟩) n c) l':=by
 obtain rfl:=h.cap'
 rcases h.2 with ⟨h',_⟩|⟨g',c',cur,h',h1,h2,h3,h4,h5,h6⟩
 ·cases h'
 ·cases h'
  refine⟨by rw [flat_len hz,hl],.inr ⟨g,c,_,by rw [hl],h1,heap_sortedK _ h2,by rw [hl];exact h3,h4,by simp [putCells,h5],?_⟩⟩
  rw [←flatK_list hz h0,hl]
  have hle:l.length*z≤cur.size:=by rw [h5];exact Nat.mul_le_mul_right _ h3
  apply List.ext_getElem?
  intro j
  by_cases hj:j<l.length*z
  ·rw [List.getElem?_take_of_lt hj,Array.getElem?_toList,Array.getElem?_toList]
   have hs:(flatK enc z l'.toArray).size=l.length*z:=by simp [hl]
   simp [putCells,hs,hj,show j<cur.size by omega]
  ·rw [List.getElem?_take_eq_none (by omega),List.getElem?_eq_none (by simp [hl];omega)]
theorem sortedK_list {lt:α→α→Bool}{d':Array α}(hp:PermIn 0 l.toArray.size l.toArray d')(hs:SortedIn lt 0 l.toArray.size d'):
  d'.toList.length=l.length∧d'.toList.Perm l∧d'.toList.Pairwise (fun x y=>lt y x=false):=by
 obtain⟨h1,_,h3⟩:=hp
 have hsz:d'.size=l.length:=by rw [h1];simp
 refine⟨by simpa using hsz,?_,?_⟩
 ·have e1:d'.extract 0 l.toArray.size=d':=by rw [←h1];simp
  have e2:l.toArray.extract 0 l.toArray.size=l.toArray:=by simp
  rw [e1,e2]at h3
  exact h3
 ·refine List.pairwise_iff_getElem.2 fun i j hi hj hij=>?_
  have:=hs i j (Nat.zero_le _) hij (by simp at hj ⊢;omega)
  simp at hi hj
  simpa [hi,hj]using this
end
end
end Go.Proofs.YtecladbckadijaaGreatDoor
