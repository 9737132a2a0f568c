/- MERGED for a claim. -/
import Derived.Test.YtecladbckadijaaGreatDoorBsH
set_option linter.unusedVariables false
set_option linter.unusedSimpArgs false
set_option maxRecDepth 100000
set_option maxHeartbeats 16000000
namespace Go.Proofs.YtecladbckadijaaGreatDoor
open Go.Lib (hid)
section
open Go.RowKit Go.Sort

section
variable {α:Type} [Inhabited α] (lt:α→α→Bool)
theorem ss_go {b q:Nat}{d:Array α}(h:q+1<b)(hp:lt d[q+1]! d[q]! =false):scanSorted lt d b (q+1)=scanSorted lt d b (q+1+1):=by
 rw [scanSorted];simp [h,hp]
theorem ss_stop {b q:Nat}{d:Array α}(h:b≤q+1∨lt d[q+1]! d[q]! =true):scanSorted lt d b (q+1)=q+1:=by
 rw [scanSorted]
 rcases h with h|h
 ·simp [Nat.not_lt.2 h]
 ·simp [h]
theorem sd_stop {j:Nat}{d:Array α}(h:lt d[j+1]! d[j]! =false):shiftDown lt (j+1) d=d:=by rw [shiftDown,h];rfl
theorem sd_go {j:Nat}{d:Array α}(h:lt d[j+1]! d[j]! =true):shiftDown lt (j+1) d=shiftDown lt j (swp d (j+1) j):=by rw [shiftDown,h];rfl
theorem su_end {b j:Nat}{d:Array α}(h:¬j<b):shiftUp lt b j d=d:=by rw [shiftUp,if_neg h]
theorem su_stop {b j:Nat}{d:Array α}(h:j+1<b)(hl:lt d[j+1]! d[j]! =false):shiftUp lt b (j+1) d=d:=by
 rw [shiftUp,if_pos h];simp only [Nat.add_sub_cancel];rw [hl];rfl
theorem su_go {b j:Nat}{d:Array α}(h:j+1<b)(hl:lt d[j+1]! d[j]! =true):shiftUp lt b (j+1) d=shiftUp lt b (j+1+1) (swp d (j+1) j):=by
 rw [shiftUp,if_pos h];simp only [Nat.add_sub_cancel];rw [hl];rfl
theorem pi_true {a b s i I:Nat}{d:Array α}(hI:scanSorted lt d b i=I)(h:I=b):partialIns lt a b (s+1) i d=(d,true):=by
 rw [partialIns];simp only [hI,h,if_pos]
theorem pi_short {a b s i I:Nat}{d:Array α}(hI:scanSorted lt d b i=I)(h:I≠b)(h2:b-a<50):partialIns lt a b (s+1) i d=(d,false):=by
 rw [partialIns];simp only [hI];rw [if_neg h,if_pos h2]
theorem pi_step {a b s i I:Nat}{d d1 d2 d3:Array α}(hI:scanSorted lt d b i=I)(h:I≠b)(h2:¬b-a<50)(e1:d1=swp d I (I-1))(e2:d2=if 2≤I-a then shiftDown lt (I-1) d1 else d1)(e3:d3=if 2≤b-I then shiftUp lt b (I+1) d2 else d2):partialIns lt a b (s+1) i d=partialIns lt a b s I d3:=by
 rw [partialIns];simp only [hI];rw [if_neg h,if_neg h2]
 subst e1;subst e2;subst e3
 rfl
end
def PIn (w0:World)(blk off:Nat)(d:Array Int)(a b:Nat)(e:Ending)(w':World):Prop:=∃(ok:Bool) (d':Array Int),e=.returned (.bool ok)∧partialInsertionSort ltInt d a b=(d',ok)∧SB w0 blk off d' w'
theorem pins_any (blk off cap a b n:Nat)(d0 d:Array Int)(w0 w:World)(R:RB w0 blk off d0)(hs0:d0.size=n)(hsd:d.size=n)(S:SB w0 blk off d w)(hab:a<b)(hb:b≤n)(hsz:n<2305843009213693952):
  Calls Tryz.prog 203 #[.slice (some ⟨blk,off,none⟩) n cap,.int .i64 a,.int .i64 b] w (PIn w0 blk off d a b):=by
 have S0:=hid S
 clear S
 go_enter Tryz.func203,Tryz.ntmps203
 go_wp2
 go_loopg [7,8] 5 (fun g1 vi vt wr=>∃(t i:Nat) (dk:Array Int),vi=.int .i64 i∧vt=.int .i64 t∧t≤5∧5-t≤g1∧a+1≤i∧i≤b∧dk.size=n∧Hid (SB w0 blk off dk wr)∧Hid (partialIns ltInt a b (5-t) i dk=partialIns ltInt a b 5 (a+1) d))
 case atStart=>exact⟨0,a+1,d,by go_num,rfl,by omega,by omega,by omega,by omega,hsd,S0,hid rfl⟩
 case round=>
  clear S0
  obtain⟨t,i,dk,rfl,rfl,ht5,hg1,hai,hib,hsk,S1,HO⟩:=hrel
  by_cases htl:t<5
  ·have htz:(t:Int)<5:=by omega
   obtain⟨s,hs⟩:∃s,s=5-(t+1):=⟨_,rfl⟩
   have HS:=hid hs
   have HO2:Hid (partialIns ltInt a b (s+1) i dk=partialIns ltInt a b 5 (a+1) d):=hid (by rw [hs,show 5-(t+1)+1=5-t by omega];exact HO.out)
   clear hs HO
   go_upto_block 2 with fail
   go_cut [7] (fun vi wx=>∃x:Nat,vi=.int .i64 x∧i≤x∧x≤b∧Hid (SB w0 blk off dk wx)∧Hid (scanSorted ltInt dk b i=x))
   case first=>
    go_wp2_with fail
    go_loopg [7] (b-i) (fun g2 vi wr=>∃x:Nat,vi=.int .i64 x∧i≤x∧x≤b∧b-x≤g2∧Hid (SB w0 blk off dk wr)∧Hid (scanSorted ltInt dk b i=scanSorted ltInt dk b x))
    case atStart=>exact⟨i,rfl,Nat.le_refl _,hib,Nat.le_refl _,S1,hid rfl⟩
    case round=>
     clear S1
     obtain⟨x,rfl,hx1,hx2,hg2,SU,HU⟩:=hrel
     obtain⟨xp,rfl⟩:∃xp,x=xp+1:=⟨x-1,by omega⟩
     by_cases hle:xp+1<b
     ·have hg3:decide (xp+1<b)=true:=by simp;omega
      have hg4:(xp:Int)+1<(b:Int):=by omega
      have hg5:decide ((xp:Int)+1<(b:Int))=true:=by simp;omega
      cases hlv:ltInt dk[xp+1]! dk[xp]! with
      | false =>
       have HN:=hid (HU.out.trans (ss_go ltInt hle hlv))
       go_wp2_with fail
       obtain⟨iNA,hiNA⟩:∃zq,zq=xp+1:=⟨_,rfl⟩
       have eiA:((xp:Int)+1).toNat=iNA:=by omega
       have piA:(0:Int)≤(xp:Int)+1:=by omega
       have biA:(xp:Int)+1<(n:Int):=by omega
       have riA:IntKind.i64.wrap ((xp:Int)+1)=(xp:Int)+1:=by rw [IntKind.wrap_i64];omega
       obtain⟨jNA,hjNA⟩:∃zq,zq=xp:=⟨_,rfl⟩
       have ejA:((xp:Int)).toNat=jNA:=by omega
       have pjA:(0:Int)≤(xp:Int):=by omega
       have bjA:(xp:Int)<(n:Int):=by omega
       have rjA:IntKind.i64.wrap ((xp:Int))=(xp:Int):=by rw [IntKind.wrap_i64];omega
       obtain⟨xA,hxA⟩:∃zx,zx=dk[xp+1]! :=⟨_,rfl⟩
       obtain⟨yA,hyA⟩:∃zx,zx=dk[xp]! :=⟨_,rfl⟩
       have laA:wr.cell? ⟨blk,off+iNA,none⟩=some (.int .u8 xA):=by rw [hiNA,hxA];exact sb_cell SU.out R (by omega) (xp+1) (by omega)
       have lbA:wr.cell? ⟨blk,off+jNA,none⟩=some (.int .u8 yA):=by rw [hjNA,hyA];exact sb_cell SU.out R (by omega) (xp) (by omega)
       have hvA:ltInt xA yA=false:=by rw [hxA,hyA];exact hlv
       have HVA:=hid hvA
       clear hxA hyA hiNA hjNA hvA
       go_wp2_with fail
       go_quiet ((go_at_call 204;exact Calls.quiet_of_same (less_q _ _ _ HVA.out _)))
       have SL:=hid (SW.drewN SU.out nq)
       clear laA lbA HVA SU
       generalize wr.drewN nq=wl at SL ⊢
       clear nq eiA piA biA riA ejA pjA bjA rjA
       go_wp2
       go_roundg (b-(xp+1+1))
       case measure=>omega
       case rel=>exact⟨xp+1+1,by go_num,by omega,by omega,Nat.le_refl _,SL,HN⟩
      | true =>
       have HN:=hid (HU.out.trans (ss_stop ltInt (.inr hlv)))
       go_wp2_with fail
       obtain⟨iNB,hiNB⟩:∃zq,zq=xp+1:=⟨_,rfl⟩
       have eiB:((xp:Int)+1).toNat=iNB:=by omega
       have piB:(0:Int)≤(xp:Int)+1:=by omega
       have biB:(xp:Int)+1<(n:Int):=by omega
       have riB:IntKind.i64.wrap ((xp:Int)+1)=(xp:Int)+1:=by rw [IntKind.wrap_i64];omega
       obtain⟨jNB,hjNB⟩:∃zq,zq=xp:=⟨_,rfl⟩
       have ejB:((xp:Int)).toNat=jNB:=by omega
       have pjB:(0:Int)≤(xp:Int):=by omega
       have bjB:(xp:Int)<(n:Int):=by omega
       have rjB:IntKind.i64.wrap ((xp:Int))=(xp:Int):=by rw [IntKind.wrap_i64];omega
       obtain⟨xB,hxB⟩:∃zx,zx=dk[xp+1]! :=⟨_,rfl⟩
       obtain⟨yB,hyB⟩:∃zx,zx=dk[xp]! :=⟨_,rfl⟩
       have laB:wr.cell? ⟨blk,off+iNB,none⟩=some (.int .u8 xB):=by rw [hiNB,hxB];exact sb_cell SU.out R (by omega) (xp+1) (by omega)
       have lbB:wr.cell? ⟨blk,off+jNB,none⟩=some (.int .u8 yB):=by rw [hjNB,hyB];exact sb_cell SU.out R (by omega) (xp) (by omega)
       have hvB:ltInt xB yB=true:=by rw [hxB,hyB];exact hlv
       have HVB:=hid hvB
       clear hxB hyB hiNB hjNB hvB
       go_wp2_with fail
       go_quiet ((go_at_call 204;exact Calls.quiet_of_same (less_q _ _ _ HVB.out _)))
       have SL:=hid (SW.drewN SU.out nq)
       clear laB lbB HVB SU
       generalize wr.drewN nq=wl at SL ⊢
       clear nq eiB piB biB riB ejB pjB bjB rjB
       go_wp2
       go_meet
       case rel=>exact⟨xp+1,by first|rfl|go_num,hx1,hx2,SL,HN⟩
     ·have hg3:decide (xp+1<b)=false:=by simp;omega
      have hg4:¬(xp:Int)+1<(b:Int):=by omega
      have hg5:decide ((xp:Int)+1<(b:Int))=false:=by simp;omega
      have HN:=hid (HU.out.trans (ss_stop ltInt (.inl (by omega))))
      go_wp2_with fail
      go_quiet (fail)
      have SL:=hid (SW.drewN SU.out nq)
      generalize wr.drewN nq=wl at SL ⊢
      go_wp2
      go_meet
      case rel=>exact⟨xp+1,by first|rfl|go_num,hx1,hx2,SL,HN⟩
   case rest=>
    clear S1
    obtain⟨I,rfl,hI1,hI2,S3,HI⟩:=hcut
    by_cases hIb:I=b
    ·have hz:((I:Int)==(b:Int))=true:=by rw [hIb];simp
     have hz2:(I==b)=true:=by rw [hIb];simp
     have HE:=hid (HO2.out.symm.trans (pi_true ltInt HI.out hIb))
     clear hIb
     go_wp2
     go_ret
     exact⟨true,dk,rfl,HE.out,S3.out⟩
    ·have hz:((I:Int)==(b:Int))=false:=by rw [beq_eq_false_iff_ne];omega
     have hz2:(I==b)=false:=by rw [beq_eq_false_iff_ne];omega
     have HIb:=hid hIb
     have hIlt:I<b:=by omega
     clear hIb
     have hba9:(b:Int)-(a:Int)≤2305843009213693952:=by omega
     by_cases h50:b-a<50
     ·have h50z:(b:Int)-(a:Int)<50:=by omega
      have HE:=hid (HO2.out.symm.trans (pi_short ltInt HI.out HIb.out h50))
      go_wp2
      go_ret
      exact⟨false,dk,rfl,HE.out,S3.out⟩
     ·have h50z:¬(b:Int)-(a:Int)<50:=by omega
      obtain⟨Ip,rfl⟩:∃Ip,I=Ip+1:=⟨I-1,by omega⟩
      go_wp2_with fail
      obtain⟨iNC,hiNC⟩:∃zq,zq=Ip+1:=⟨_,rfl⟩
      have eiC:((Ip:Int)+1).toNat=iNC:=by omega
      have piC:(0:Int)≤(Ip:Int)+1:=by omega
      have biC:(Ip:Int)+1<(n:Int):=by omega
      have riC:IntKind.i64.wrap ((Ip:Int)+1)=(Ip:Int)+1:=by rw [IntKind.wrap_i64];omega
      obtain⟨jNC,hjNC⟩:∃zq,zq=Ip:=⟨_,rfl⟩
      have ejC:((Ip:Int)).toNat=jNC:=by omega
      have pjC:(0:Int)≤(Ip:Int):=by omega
      have bjC:(Ip:Int)<(n:Int):=by omega
      have rjC:IntKind.i64.wrap ((Ip:Int))=(Ip:Int):=by rw [IntKind.wrap_i64];omega
      obtain⟨xC,hxC⟩:∃zx,zx=dk[Ip+1]! :=⟨_,rfl⟩
      obtain⟨yC,hyC⟩:∃zx,zx=dk[Ip]! :=⟨_,rfl⟩
      have S4:Hid (SB w0 blk off (swp dk (Ip+1) (Ip)) ((wc.setCell ⟨blk,off+iNC,none⟩ (.int .u8 yC)).setCell ⟨blk,off+jNC,none⟩ (.int .u8 xC)).drew):=hid (by rw [hiNC,hjNC,hxC,hyC];exact sb_swap S3.out R (Ip+1) (Ip) (by omega) (by omega))
      have caC:wc.cell? ⟨blk,off+iNC,none⟩=some (.int .u8 xC):=by rw [hiNC,hxC];exact sb_cell S3.out R (by omega) (Ip+1) (by omega)
      have cbC:wc.cell? ⟨blk,off+jNC,none⟩=some (.int .u8 yC):=by rw [hjNC,hyC];exact sb_cell S3.out R (by omega) (Ip) (by omega)
      have faC:wc.frozen? ⟨blk,off+iNC,none⟩=false:=by rw [hiNC];exact SW.f1 S3.out R (by omega) (Ip+1) (by omega)
      have fbC:wc.frozen? ⟨blk,off+jNC,none⟩=false:=by rw [hjNC];exact SW.f1 S3.out R (by omega) (Ip) (by omega)
      obtain⟨uC,ccC⟩:∃u,(wc.setCell ⟨blk,off+iNC,none⟩ (.int .u8 yC)).cell? ⟨blk,off+jNC,none⟩=some u:=by rw [hiNC,hjNC];exact SW.c2 S3.out R (by omega) (Ip+1) (Ip) (by omega) (by omega) (.int .u8 yC)
      clear S3 hxC hyC hiNC hjNC
      go_wp2_with fail
      go_region
      clear caC cbC ccC faC fbC
      generalize ((wc.setCell ⟨blk,off+iNC,none⟩ (.int .u8 yC)).setCell ⟨blk,off+jNC,none⟩ (.int .u8 xC)).drew=w4 at S4 ⊢
      clear eiC piC biC riC ejC pjC bjC rjC
      obtain⟨d1,hd1⟩:∃d1,d1=swp dk (Ip+1) Ip:=⟨_,rfl⟩
      have hs1:d1.size=n:=by rw [hd1,size_swp];exact hsk
      have HD1:=hid hd1
      rw [←hd1]at S4
      clear hd1
      go_upto_if 61 with fail
      go_cut [9] (fun v9 wx=>∃dm:Array Int,dm.size=n∧Hid (SB w0 blk off dm wx)∧Hid (dm=if 2≤Ip+1-a then shiftDown ltInt Ip d1 else d1))
      case first=>
       by_cases h2:2≤Ip+1-a
       ·have h2z:(2:Int)≤(Ip:Int)+1-(a:Int):=by omega
        have h2d:decide ((2:Int)≤(Ip:Int)+1-(a:Int))=true:=by simp;omega
        have HIF:Hid ((if 2≤Ip+1-a then shiftDown ltInt Ip d1 else d1)=shiftDown ltInt Ip d1):=hid (if_pos h2)
        go_wp2_with fail
        go_loopg [9] Ip (fun g2 vj wr=>∃(x:Nat) (dj:Array Int),vj=.int .i64 x∧x≤Ip∧x≤g2∧dj.size=n∧Hid (SB w0 blk off dj wr)∧Hid (shiftDown ltInt x dj=shiftDown ltInt Ip d1))
        case atStart=>exact⟨Ip,d1,by first|rfl|go_num,Nat.le_refl _,Nat.le_refl _,hs1,S4,hid rfl⟩
        case round=>
         clear S4
         obtain⟨x,dj,rfl,hx1,hg2,hsj,SU,HU⟩:=hrel
         by_cases hx0:1≤x
         ·obtain⟨xp,rfl⟩:∃xp,x=xp+1:=⟨x-1,by omega⟩
          have hxz:(1:Int)≤(xp:Int)+1:=by omega
          cases hlv:ltInt dj[xp+1]! dj[xp]! with
          | true =>
           have HN:=hid ((sd_go ltInt hlv).symm.trans HU.out)
           go_wp2_with fail
           obtain⟨iND,hiND⟩:∃zq,zq=xp+1:=⟨_,rfl⟩
           have eiD:((xp:Int)+1).toNat=iND:=by omega
           have piD:(0:Int)≤(xp:Int)+1:=by omega
           have biD:(xp:Int)+1<(n:Int):=by omega
           have riD:IntKind.i64.wrap ((xp:Int)+1)=(xp:Int)+1:=by rw [IntKind.wrap_i64];omega
           obtain⟨jND,hjND⟩:∃zq,zq=xp:=⟨_,rfl⟩
           have ejD:((xp:Int)).toNat=jND:=by omega
           have pjD:(0:Int)≤(xp:Int):=by omega
           have bjD:(xp:Int)<(n:Int):=by omega
           have rjD:IntKind.i64.wrap ((xp:Int))=(xp:Int):=by rw [IntKind.wrap_i64];omega
           obtain⟨xD,hxD⟩:∃zx,zx=dj[xp+1]! :=⟨_,rfl⟩
           obtain⟨yD,hyD⟩:∃zx,zx=dj[xp]! :=⟨_,rfl⟩
           have laD:wr.cell? ⟨blk,off+iND,none⟩=some (.int .u8 xD):=by rw [hiND,hxD];exact sb_cell SU.out R (by omega) (xp+1) (by omega)
           have lbD:wr.cell? ⟨blk,off+jND,none⟩=some (.int .u8 yD):=by rw [hjND,hyD];exact sb_cell SU.out R (by omega) (xp) (by omega)
           have hvD:ltInt xD yD=true:=by rw [hxD,hyD];exact hlv
           have HVD:=hid hvD
           clear hxD hyD hiND hjND hvD
           go_wp2_with fail
           go_quiet ((go_at_call 204;exact Calls.quiet_of_same (less_q _ _ _ HVD.out _)))
           have SL:=hid (SW.drewN SU.out nq)
           clear laD lbD HVD SU
           generalize wr.drewN nq=wl at SL ⊢
           clear nq eiD piD biD riD ejD pjD bjD rjD
           go_wp2_with fail
           obtain⟨iNE,hiNE⟩:∃zq,zq=xp+1:=⟨_,rfl⟩
           have eiE:((xp:Int)+1).toNat=iNE:=by omega
           have piE:(0:Int)≤(xp:Int)+1:=by omega
           have biE:(xp:Int)+1<(n:Int):=by omega
           have riE:IntKind.i64.wrap ((xp:Int)+1)=(xp:Int)+1:=by rw [IntKind.wrap_i64];omega
           obtain⟨jNE,hjNE⟩:∃zq,zq=xp:=⟨_,rfl⟩
           have ejE:((xp:Int)).toNat=jNE:=by omega
           have pjE:(0:Int)≤(xp:Int):=by omega
           have bjE:(xp:Int)<(n:Int):=by omega
           have rjE:IntKind.i64.wrap ((xp:Int))=(xp:Int):=by rw [IntKind.wrap_i64];omega
           obtain⟨xE,hxE⟩:∃zx,zx=dj[xp+1]! :=⟨_,rfl⟩
           obtain⟨yE,hyE⟩:∃zx,zx=dj[xp]! :=⟨_,rfl⟩
           have S6:Hid (SB w0 blk off (swp dj (xp+1) (xp)) ((wl.setCell ⟨blk,off+iNE,none⟩ (.int .u8 yE)).setCell ⟨blk,off+jNE,none⟩ (.int .u8 xE)).drew):=hid (by rw [hiNE,hjNE,hxE,hyE];exact sb_swap SL.out R (xp+1) (xp) (by omega) (by omega))
           have caE:wl.cell? ⟨blk,off+iNE,none⟩=some (.int .u8 xE):=by rw [hiNE,hxE];exact sb_cell SL.out R (by omega) (xp+1) (by omega)
           have cbE:wl.cell? ⟨blk,off+jNE,none⟩=some (.int .u8 yE):=by rw [hjNE,hyE];exact sb_cell SL.out R (by omega) (xp) (by omega)
           have faE:wl.frozen? ⟨blk,off+iNE,none⟩=false:=by rw [hiNE];exact SW.f1 SL.out R (by omega) (xp+1) (by omega)
           have fbE:wl.frozen? ⟨blk,off+jNE,none⟩=false:=by rw [hjNE];exact SW.f1 SL.out R (by omega) (xp) (by omega)
           obtain⟨uE,ccE⟩:∃u,(wl.setCell ⟨blk,off+iNE,none⟩ (.int .u8 yE)).cell? ⟨blk,off+jNE,none⟩=some u:=by rw [hiNE,hjNE];exact SW.c2 SL.out R (by omega) (xp+1) (xp) (by omega) (by omega) (.int .u8 yE)
           clear SL hxE hyE hiNE hjNE
           go_wp2_with fail
           go_region
           clear caE cbE ccE faE fbE
           generalize ((wl.setCell ⟨blk,off+iNE,none⟩ (.int .u8 yE)).setCell ⟨blk,off+jNE,none⟩ (.int .u8 xE)).drew=w6 at S6 ⊢
           clear eiE piE biE riE ejE pjE bjE rjE
           go_wp2
           go_roundg xp
           case measure=>omega
           case rel=>exact⟨xp,swp dj (xp+1) xp,by go_num,by omega,Nat.le_refl _,by rw [size_swp];exact hsj,S6,HN⟩
          | false =>
           have HN:=hid ((sd_stop ltInt hlv).symm.trans HU.out)
           go_wp2_with fail
           obtain⟨iND,hiND⟩:∃zq,zq=xp+1:=⟨_,rfl⟩
           have eiD:((xp:Int)+1).toNat=iND:=by omega
           have piD:(0:Int)≤(xp:Int)+1:=by omega
           have biD:(xp:Int)+1<(n:Int):=by omega
           have riD:IntKind.i64.wrap ((xp:Int)+1)=(xp:Int)+1:=by rw [IntKind.wrap_i64];omega
           obtain⟨jND,hjND⟩:∃zq,zq=xp:=⟨_,rfl⟩
           have ejD:((xp:Int)).toNat=jND:=by omega
           have pjD:(0:Int)≤(xp:Int):=by omega
           have bjD:(xp:Int)<(n:Int):=by omega
           have rjD:IntKind.i64.wrap ((xp:Int))=(xp:Int):=by rw [IntKind.wrap_i64];omega
           obtain⟨xD,hxD⟩:∃zx,zx=dj[xp+1]! :=⟨_,rfl⟩
           obtain⟨yD,hyD⟩:∃zx,zx=dj[xp]! :=⟨_,rfl⟩
           have laD:wr.cell? ⟨blk,off+iND,none⟩=some (.int .u8 xD):=by rw [hiND,hxD];exact sb_cell SU.out R (by omega) (xp+1) (by omega)
           have lbD:wr.cell? ⟨blk,off+jND,none⟩=some (.int .u8 yD):=by rw [hjND,hyD];exact sb_cell SU.out R (by omega) (xp) (by omega)
           have hvD:ltInt xD yD=false:=by rw [hxD,hyD];exact hlv
           have HVD:=hid hvD
           clear hxD hyD hiND hjND hvD
           go_wp2_with fail
           go_quiet ((go_at_call 204;exact Calls.quiet_of_same (less_q _ _ _ HVD.out _)))
           have SL:=hid (SW.drewN SU.out nq)
           clear laD lbD HVD SU
           generalize wr.drewN nq=wl at SL ⊢
           clear nq eiD piD biD riD ejD pjD bjD rjD
           go_wp2
           go_meet
           case rel=>exact⟨dj,hsj,SL,hid (HN.out.trans HIF.out.symm)⟩
         ·obtain rfl:x=0:=by omega
          have hxz:¬(1:Int)≤((0:Nat):Int):=by omega
          have HN:Hid (dj=shiftDown ltInt Ip d1):=HU
          go_wp2
          go_meet
          case rel=>exact⟨dj,hsj,SU,hid (HN.out.trans HIF.out.symm)⟩
       ·have h2z:¬(2:Int)≤(Ip:Int)+1-(a:Int):=by omega
        have h2d:decide ((2:Int)≤(Ip:Int)+1-(a:Int))=false:=by simp;omega
        have HIF:Hid ((if 2≤Ip+1-a then shiftDown ltInt Ip d1 else d1)=d1):=hid (if_neg h2)
        go_wp2
        go_meet
        case rel=>exact⟨d1,hs1,S4,hid HIF.out.symm⟩
      case rest=>
       clear S4
       obtain⟨d2,hs2,S5,HD2⟩:=hcut
       have HSTF:Hid (∀d3,d3=(if 2≤b-(Ip+1)then shiftUp ltInt b (Ip+1+1) d2 else d2)→partialIns ltInt a b (5-(t+1)) (Ip+1) d3=partialIns ltInt a b 5 (a+1) d):=hid fun d3 e3=>by
        rw [←HS.out];exact(pi_step ltInt HI.out HIb.out h50 HD1.out HD2.out e3).symm.trans HO2.out
       by_cases h2:2≤b-(Ip+1)
       ·have h2z:(2:Int)≤(b:Int)-((Ip:Int)+1):=by omega
        have h2d:decide ((2:Int)≤(b:Int)-((Ip:Int)+1))=true:=by simp;omega
        have HIF:Hid ((if 2≤b-(Ip+1)then shiftUp ltInt b (Ip+1+1) d2 else d2)=shiftUp ltInt b (Ip+1+1) d2):=hid (if_pos h2)
        go_wp2_with fail
        go_loopg [10] b (fun g2 vj wr=>∃(x:Nat) (dj:Array Int),vj=.int .i64 (x+1:Nat)∧Ip+1≤x∧x+1≤b∧b-x≤g2∧dj.size=n∧Hid (SB w0 blk off dj wr)∧Hid (shiftUp ltInt b (x+1) dj=shiftUp ltInt b (Ip+1+1) d2))
        case atStart=>exact⟨Ip+1,d2,by first|rfl|go_num,Nat.le_refl _,by omega,by omega,hs2,S5,hid rfl⟩
        case round=>
         clear S5
         obtain⟨xp,dj,rfl,hx1,hx2,hg2,hsj,SU,HU⟩:=hrel
         by_cases hx0:xp+1<b
         ·have hxz:(xp:Int)+1<(b:Int):=by omega
          cases hlv:ltInt dj[xp+1]! dj[xp]! with
          | true =>
           have HN:=hid ((su_go ltInt hx0 hlv).symm.trans HU.out)
           go_wp2_with fail
           obtain⟨iND,hiND⟩:∃zq,zq=xp+1:=⟨_,rfl⟩
           have eiD:((xp:Int)+1).toNat=iND:=by omega
           have piD:(0:Int)≤(xp:Int)+1:=by omega
           have biD:(xp:Int)+1<(n:Int):=by omega
           have riD:IntKind.i64.wrap ((xp:Int)+1)=(xp:Int)+1:=by rw [IntKind.wrap_i64];omega
           obtain⟨jND,hjND⟩:∃zq,zq=xp:=⟨_,rfl⟩
           have ejD:((xp:Int)).toNat=jND:=by omega
           have pjD:(0:Int)≤(xp:Int):=by omega
           have bjD:(xp:Int)<(n:Int):=by omega
           have rjD:IntKind.i64.wrap ((xp:Int))=(xp:Int):=by rw [IntKind.wrap_i64];omega
           obtain⟨xD,hxD⟩:∃zx,zx=dj[xp+1]! :=⟨_,rfl⟩
           obtain⟨yD,hyD⟩:∃zx,zx=dj[xp]! :=⟨_,rfl⟩
           have laD:wr.cell? ⟨blk,off+iND,none⟩=some (.int .u8 xD):=by rw [hiND,hxD];exact sb_cell SU.out R (by omega) (xp+1) (by omega)
           have lbD:wr.cell? ⟨blk,off+jND,none⟩=some (.int .u8 yD):=by rw [hjND,hyD];exact sb_cell SU.out R (by omega) (xp) (by omega)
           have hvD:ltInt xD yD=true:=by rw [hxD,hyD];exact hlv
           have HVD:=hid hvD
           clear hxD hyD hiND hjND hvD
           go_wp2_with fail
           go_quiet ((go_at_call 204;exact Calls.quiet_of_same (less_q _ _ _ HVD.out _)))
           have SL:=hid (SW.drewN SU.out nq)
           clear laD lbD HVD SU
           generalize wr.drewN nq=wl at SL ⊢
           clear nq eiD piD biD riD ejD pjD bjD rjD
           go_wp2_with fail
           obtain⟨iNE,hiNE⟩:∃zq,zq=xp+1:=⟨_,rfl⟩
           have eiE:((xp:Int)+1).toNat=iNE:=by omega
           have piE:(0:Int)≤(xp:Int)+1:=by omega
           have biE:(xp:Int)+1<(n:Int):=by omega
           have riE:IntKind.i64.wrap ((xp:Int)+1)=(xp:Int)+1:=by rw [IntKind.wrap_i64];omega
           obtain⟨jNE,hjNE⟩:∃zq,zq=xp:=⟨_,rfl⟩
           have ejE:((xp:Int)).toNat=jNE:=by omega
           have pjE:(0:Int)≤(xp:Int):=by omega
           have bjE:(xp:Int)<(n:Int):=by omega
           have rjE:IntKind.i64.wrap ((xp:Int))=(xp:Int):=by rw [IntKind.wrap_i64];omega
           obtain⟨xE,hxE⟩:∃zx,zx=dj[xp+1]! :=⟨_,rfl⟩
           obtain⟨yE,hyE⟩:∃zx,zx=dj[xp]! :=⟨_,rfl⟩
           have S6:Hid (SB w0 blk off (swp dj (xp+1) (xp)) ((wl.setCell ⟨blk,off+iNE,none⟩ (.int .u8 yE)).setCell ⟨blk,off+jNE,none⟩ (.int .u8 xE)).drew):=hid (by rw [hiNE,hjNE,hxE,hyE];exact sb_swap SL.out R (xp+1) (xp) (by omega) (by omega))
           have caE:wl.cell? ⟨blk,off+iNE,none⟩=some (.int .u8 xE):=by rw [hiNE,hxE];exact sb_cell SL.out R (by omega) (xp+1) (by omega)
           have cbE:wl.cell? ⟨blk,off+jNE,none⟩=some (.int .u8 yE):=by rw [hjNE,hyE];exact sb_cell SL.out R (by omega) (xp) (by omega)
           have faE:wl.frozen? ⟨blk,off+iNE,none⟩=false:=by rw [hiNE];exact SW.f1 SL.out R (by omega) (xp+1) (by omega)
           have fbE:wl.frozen? ⟨blk,off+jNE,none⟩=false:=by rw [hjNE];exact SW.f1 SL.out R (by omega) (xp) (by omega)
           obtain⟨uE,ccE⟩:∃u,(wl.setCell ⟨blk,off+iNE,none⟩ (.int .u8 yE)).cell? ⟨blk,off+jNE,none⟩=some u:=by rw [hiNE,hjNE];exact SW.c2 SL.out R (by omega) (xp+1) (xp) (by omega) (by omega) (.int .u8 yE)
           clear SL hxE hyE hiNE hjNE
           go_wp2_with fail
           go_region
           clear caE cbE ccE faE fbE
           generalize ((wl.setCell ⟨blk,off+iNE,none⟩ (.int .u8 yE)).setCell ⟨blk,off+jNE,none⟩ (.int .u8 xE)).drew=w6 at S6 ⊢
           clear eiE piE biE riE ejE pjE bjE rjE
           go_wp2
           go_roundg (b-(xp+1))
           case measure=>omega
           case rel=>exact⟨xp+1,swp dj (xp+1) xp,by go_num,by omega,by omega,Nat.le_refl _,by rw [size_swp];exact hsj,S6,HN⟩
          | false =>
           have HN:=hid ((su_stop ltInt hx0 hlv).symm.trans HU.out)
           go_wp2_with fail
           obtain⟨iND,hiND⟩:∃zq,zq=xp+1:=⟨_,rfl⟩
           have eiD:((xp:Int)+1).toNat=iND:=by omega
           have piD:(0:Int)≤(xp:Int)+1:=by omega
           have biD:(xp:Int)+1<(n:Int):=by omega
           have riD:IntKind.i64.wrap ((xp:Int)+1)=(xp:Int)+1:=by rw [IntKind.wrap_i64];omega
           obtain⟨jND,hjND⟩:∃zq,zq=xp:=⟨_,rfl⟩
           have ejD:((xp:Int)).toNat=jND:=by omega
           have pjD:(0:Int)≤(xp:Int):=by omega
           have bjD:(xp:Int)<(n:Int):=by omega
           have rjD:IntKind.i64.wrap ((xp:Int))=(xp:Int):=by rw [IntKind.wrap_i64];omega
           obtain⟨xD,hxD⟩:∃zx,zx=dj[xp+1]! :=⟨_,rfl⟩
           obtain⟨yD,hyD⟩:∃zx,zx=dj[xp]! :=⟨_,rfl⟩
           have laD:wr.cell? ⟨blk,off+iND,none⟩=some (.int .u8 xD):=by rw [hiND,hxD];exact sb_cell SU.out R (by omega) (xp+1) (by omega)
           have lbD:wr.cell? ⟨blk,off+jND,none⟩=some (.int .u8 yD):=by rw [hjND,hyD];exact sb_cell SU.out R (by omega) (xp) (by omega)
           have hvD:ltInt xD yD=false:=by rw [hxD,hyD];exact hlv
           have HVD:=hid hvD
           clear hxD hyD hiND hjND hvD
           go_wp2_with fail
           go_quiet ((go_at_call 204;exact Calls.quiet_of_same (less_q _ _ _ HVD.out _)))
           have SL:=hid (SW.drewN SU.out nq)
           clear laD lbD HVD SU
           generalize wr.drewN nq=wl at SL ⊢
           clear nq eiD piD biD riD ejD pjD bjD rjD
           go_wp2
           go_roundg (5-(t+1))
           case measure=>omega
           case rel=>exact⟨t+1,Ip+1,dj,by go_num,by go_num,by omega,Nat.le_refl _,by omega,by omega,hsj,SL,hid (HSTF.out dj (HN.out.trans HIF.out.symm))⟩
         ·have hxz:¬(xp:Int)+1<(b:Int):=by omega
          have HN:=hid ((su_end ltInt hx0).symm.trans HU.out)
          go_wp2
          go_roundg (5-(t+1))
          case measure=>omega
          case rel=>exact⟨t+1,Ip+1,dj,by go_num,by go_num,by omega,Nat.le_refl _,by omega,by omega,hsj,SU,hid (HSTF.out dj (HN.out.trans HIF.out.symm))⟩
       ·have h2z:¬(2:Int)≤(b:Int)-((Ip:Int)+1):=by omega
        have h2d:decide ((2:Int)≤(b:Int)-((Ip:Int)+1))=false:=by simp;omega
        have HIF:Hid ((if 2≤b-(Ip+1)then shiftUp ltInt b (Ip+1+1) d2 else d2)=d2):=hid (if_neg h2)
        go_wp2
        go_roundg (5-(t+1))
        case measure=>omega
        case rel=>exact⟨t+1,Ip+1,d2,by go_num,by go_num,by omega,Nat.le_refl _,by omega,by omega,hs2,S5,hid (HSTF.out d2 HIF.out.symm)⟩
  ·obtain rfl:t=5:=by omega
   have htz:¬((5:Nat):Int)<5:=by omega
   have HE:Hid ((dk,false)=partialIns ltInt a b 5 (a+1) d):=HO
   go_wp2
   go_ret
   exact⟨false,dk,rfl,HE.out.symm,S1.out⟩
end
section
open Go.RowKit Go.Sort

abbrev LowB (a b:Nat)(d:Array Int):Prop:=Go.Sort.Below ltInt a b d
def Srt (w0:World)(blk off:Nat)(d:Array Int)(a b:Nat)(e:Ending)(w':World):Prop:=∃d':Array Int,e=.returned (.tuple #[])∧PermIn a b d d'∧SortedIn ltInt a b d'∧SB w0 blk off d' w'
def Fin (a b:Nat)(d:Array Int)(x y:Nat)(e:Array Int):Prop:=∀r,PermIn x y e r→SortedIn ltInt x y r→PermIn a b d r∧SortedIn ltInt a b r
theorem Fin.perm {a b x y:Nat}{d e e':Array Int}(h:Fin a b d x y e)(hp:PermIn x y e e'):Fin a b d x y e':=fun r h1 h2=>h r (permIn_trans _ _ _ x y hp h1) h2
def PdqC (n N : Nat) : Prop := ∀ (blk off cap a b lim : Nat) (d0 d : Array Int) (w0 w : World) (R : RB w0 blk off d0) (hs0 : d0.size = n) (hsd : d.size = n) (S : SB w0 blk off d w) (hab : a ≤ b) (hb : b ≤ n) (hL : LowB a b d) (hlim : lim ≤ 1000) (hN : b - a ≤ N),
  Calls Tryz.prog 197 #[.slice (some ⟨blk,off,none⟩) n cap,.int .i64 a,.int .i64 b,.int .i64 lim] w (Srt w0 blk off d a b)
theorem pdq_of (n N:Nat)(hsz:n<2305843009213693952)(ih:∀M,M<N→PdqC n M):PdqC n N:=by
 intro blk off cap a b lim d0 d w0 w R hs0 hsd S hab hb hL hlim hN
 have S0:=hid S
 have HL:=hid hL
 have HIH:=hid ih
 clear S hL ih
 go_enter Tryz.func197,Tryz.ntmps197
 go_wp2_with fail
 go_loopg [1,2,3,8,9] N (fun g1 va vb vl v8 v9 wr=>∃(x y l:Nat) (wb wp:Bool) (dk:Array Int),va=.int .i64 x∧vb=.int .i64 y∧vl=.int .i64 l∧v8=.bool wb∧v9=.bool wp∧x≤y∧y≤n∧l≤1000∧y-x≤g1∧g1≤N∧dk.size=n∧Hid (SB w0 blk off dk wr)∧Hid (LowB x y dk)∧Hid (Fin a b d x y dk))
 case atStart=>exact⟨a,b,lim,true,true,d,rfl,rfl,rfl,rfl,rfl,hab,hb,hlim,hN,Nat.le_refl _,hsd,S0,HL,hid fun r h1 h2=>⟨h1,h2⟩⟩
 case round=>
  clear S0 HL hab hb hlim hN hsd
  obtain⟨x,y,l,wb,wp,dk,rfl,rfl,rfl,rfl,rfl,hxy,hyn,hl,hg1,hgN,hsk,S1,HL,HF⟩:=hrel
  obtain⟨L,hLL⟩:∃L,L=y-x:=⟨_,rfl⟩
  have hbl:(y:Int)-(x:Int)=(L:Int):=by omega
  have hL1:L≤y-x:=by omega
  have hL2:y-x≤L:=by omega
  clear hLL
  by_cases h12:L≤12
  ·have h12z:(L:Int)≤12:=by omega
   go_wp2_with (go_at_call 198;(refine(ins_any blk off cap x y n d0 dk w0 _ R hs0 hsk S1.out hxy hyn (by omega)).mono ?_);rintro e w2 ⟨rfl,hS2⟩;have S2:=hid hS2;clear hS2)
   refine bodyPost_ret (results_none rfl _ _ _) rfl ?_
   obtain⟨q1,q2⟩:=insertionSort_holds swo_ltInt dk x y hxy (by omega)
   obtain⟨p1,p2⟩:=HF.out _ q1 q2
   exact⟨_,rfl,p1,p2,S2.out⟩
  ·have h12z:¬(L:Int)≤12:=by omega
   by_cases hl0:l=0
   ·have hlz:((l:Int)==0)=true:=by rw [hl0];rfl
    clear hl0
    go_wp2_with (go_at_call 199;(refine(heap_any blk off cap x y n d0 dk w0 _ R hs0 hsk S1.out (by omega) hyn hsz).mono ?_);rintro e w2 ⟨rfl,hS2⟩;have S2:=hid hS2;clear hS2)
    refine bodyPost_ret (results_none rfl _ _ _) rfl ?_
    obtain⟨q1,q2⟩:=heapSort_holds swo_ltInt dk x y hxy (by omega)
    obtain⟨p1,p2⟩:=HF.out _ q1 q2
    exact⟨_,rfl,p1,p2,S2.out⟩
   ·have hlz:((l:Int)==0)=false:=by rw [beq_eq_false_iff_ne];omega
    go_upto_if 35 with fail
    go_cut [3] (fun v3 wx=>∃(l':Nat) (d1:Array Int),v3=.int .i64 l'∧l'≤1000∧d1.size=n∧Hid (PermIn x y dk d1)∧Hid (SB w0 blk off d1 wx))
    case first=>
     cases wb with
     | true =>
      go_wp2_with fail
      go_meet
      case rel=>exact⟨l,dk,rfl,hl,hsk,hid (permIn_refl _ _ _),S1⟩
     | false =>
      go_wp2_with (go_at_call 200;(refine(brk_any blk off cap x y n d0 dk w0 _ R hs0 hsk S1.out (by omega) hyn hsz).mono ?_);rintro e w2 ⟨d1,rfl,hp,hS2⟩;have S2:=hid hS2;have HP:=hid hp;have hs1:d1.size=n:=hp.1.trans hsk;clear hS2 hp)
      go_meet
      case rel=>exact⟨l-1,d1,by congr 1;omega,by omega,hs1,HP,S2⟩
    case rest=>
     clear S1
     obtain⟨l',d1,rfl,hl',hs1,HP1,S2⟩:=hcut
     clear hlz hl0 hl
     go_upto_if 50 with (go_at_call 201;(refine(pivot_any blk off cap x y n d0 d1 w0 _ R hs0 hs1 S2.out (by omega) hyn hsz).mono ?_);rintro e w3 ⟨p,h,hp,hh,rfl,hS3⟩;have S3:=hid hS3;clear hS3)
     obtain⟨hp1,hp2⟩:=hp
     clear S2
     go_cut [11,12] (fun v11 v12 wx=>∃(p h:Nat) (d2:Array Int),v11=.int .i64 p∧v12=.int .i64 h∧x≤p∧p<y∧d2.size=n∧Hid (PermIn x y d1 d2)∧Hid (SB w0 blk off d2 wx))
     case first=>
      by_cases h2:h=2
      ·have h2z:((h:Int)==2)=true:=by rw [h2];rfl
       clear h2
       have hyz:(1:Int)≤(y:Int):=by omega
       have hy9:(y:Int)≤2305843009213693952:=by omega
       have hpx:(x:Int)≤(p:Int):=by omega
       go_wp2_with (go_at_call 202;(refine(rev_any blk off cap x y n d0 d1 w0 _ R hs0 hs1 S3.out (by omega) hyn (by omega)).mono ?_);rintro e w4 ⟨rfl,hS4⟩;have S4:=hid hS4;clear hS4)
       go_meet
       case rel=>exact⟨y-1-(p-x),1,_,by congr 1;omega,rfl,by omega,by omega,(reverseRange_holds d1 x y hxy (by omega)).1.trans hs1,hid (reverseRange_holds d1 x y hxy (by omega)),S4⟩
      ·have h2z:((h:Int)==2)=false:=by rw [beq_eq_false_iff_ne];omega
       go_wp2
       go_meet
       case rel=>exact⟨p,h,d1,rfl,rfl,hp1,hp2,hs1,hid (permIn_refl _ _ _),S3⟩
     case rest=>
      clear S3 hp1 hp2 hh
      obtain⟨p,h,d2,rfl,rfl,hp1,hp2,hs2,HP2,S3⟩:=hcut
      have HL2:Hid (LowB x y d2):=hid (Go.Sort.Below.perm (Go.Sort.Below.perm HL.out (by omega) HP1.out) (by omega) HP2.out)
      have HF2:Hid (Fin a b d x y d2):=hid ((HF.out.perm HP1.out).perm HP2.out)
      clear HL HF HP1 HP2
      go_upto_region 15 with fail
      go_cut [68] (fun v wx=>∃q:Bool,v=.bool q∧Hid (SB w0 blk off d2 wx))
      case first=>
       cases wb with
       | false =>
        go_wp2
        go_meet
        case rel=>exact⟨_,rfl,S3⟩
       | true =>
        cases wp with
        | false =>
         go_wp2
         go_meet
         case rel=>exact⟨_,rfl,S3⟩
        | true =>
         cases h1:((h:Int)==1)
         ·go_wp2
          go_meet
          case rel=>exact⟨_,rfl,S3⟩
         ·go_wp2
          go_meet
          case rel=>exact⟨_,rfl,S3⟩
      case rest=>
       clear S3
       obtain⟨q,rfl,S3⟩:=hcut
       go_upto_if 68 with fail
       go_cut [12] (fun v wx=>∃d3:Array Int,d3.size=n∧Hid (LowB x y d3)∧Hid (Fin a b d x y d3)∧Hid (SB w0 blk off d3 wx))
       case first=>
        cases q with
        | false =>
         go_wp2
         go_meet
         case rel=>exact⟨d2,hs2,HL2,HF2,S3⟩
        | true =>
         go_wp2_with fail
         refine(pins_any blk off cap x y n d0 d2 w0 _ R hs0 hs2 S3.out (by omega) hyn hsz).mono ?_
         rintro e w4 ⟨ok,d3,rfl,hpi,hS4⟩
         have S4:=hid hS4
         obtain⟨hq1,hq2⟩:=partialInsertionSort_holds swo_ltInt d2 x y (by omega) (by omega) HL2.out
         rw [hpi]at hq1 hq2
         have HQ1:Hid (PermIn x y d2 d3):=hid hq1
         have HQ2:Hid (ok=true→SortedIn ltInt x y d3):=hid hq2
         clear hS4 hpi hq1 hq2 S3
         cases ok with
         | true =>
          go_wp2
          refine bodyPost_ret (results_none rfl _ _ _) rfl ?_
          obtain⟨q1,q2⟩:=HF2.out _ HQ1.out (HQ2.out (by first|rfl|trivial))
          exact⟨_,rfl,q1,q2,S4.out⟩
         | false =>
          have hs3:d3.size=n:=HQ1.out.1.trans hs2
          go_wp2
          go_meet
          case rel=>exact⟨d3,hs3,hid (Go.Sort.Below.perm HL2.out (by omega) HQ1.out),hid (HF2.out.perm HQ1.out),S4⟩
       case rest=>
        clear S3 HL2 HF2
        obtain⟨d3,hs3,HL3,HF3,S4⟩:=hcut
        go_upto_region 17 with fail
        go_cut [87] (fun v wx=>∃q:Bool,v=.bool q∧Hid (SB w0 blk off d3 wx)∧Hid (q=true→0<x∧ltInt d3[x-1]! d3[p]! =false))
        case first=>
         by_cases hx0:0<x
         ·obtain⟨xp,rfl⟩:∃xp,x=xp+1:=⟨x-1,by omega⟩
          have hxz:(0:Int)<(xp:Int)+1:=by omega
          have hxd:decide ((0:Int)<(xp:Int)+1)=true:=decide_eq_true (by omega)
          cases hlv:ltInt d3[xp]! d3[p]! with
          | true =>
           go_wp2_with fail
           obtain⟨iNA,hiNA⟩:∃zq,zq=xp:=⟨_,rfl⟩
           have eiA:((xp:Int)).toNat=iNA:=by omega
           have piA:(0:Int)≤(xp:Int):=by omega
           have biA:(xp:Int)<(n:Int):=by omega
           have riA:IntKind.i64.wrap ((xp:Int))=(xp:Int):=by rw [IntKind.wrap_i64];omega
           obtain⟨jNA,hjNA⟩:∃zq,zq=p:=⟨_,rfl⟩
           have ejA:((p:Int)).toNat=jNA:=by omega
           have pjA:(0:Int)≤(p:Int):=by omega
           have bjA:(p:Int)<(n:Int):=by omega
           have rjA:IntKind.i64.wrap ((p:Int))=(p:Int):=by rw [IntKind.wrap_i64];omega
           obtain⟨xA,hxA⟩:∃zx,zx=d3[xp]! :=⟨_,rfl⟩
           obtain⟨yA,hyA⟩:∃zx,zx=d3[p]! :=⟨_,rfl⟩
           have laA:wc.cell? ⟨blk,off+iNA,none⟩=some (.int .u8 xA):=by rw [hiNA,hxA];exact sb_cell S4.out R (by omega) (xp) (by omega)
           have lbA:wc.cell? ⟨blk,off+jNA,none⟩=some (.int .u8 yA):=by rw [hjNA,hyA];exact sb_cell S4.out R (by omega) (p) (by omega)
           have hvA:ltInt xA yA=true:=by rw [hxA,hyA];exact hlv
           have HVA:=hid hvA
           clear hxA hyA hiNA hjNA hvA
           go_wp2_with fail
           go_quiet ((go_at_call 204;exact Calls.quiet_of_same (less_q _ _ _ HVA.out _)))
           have SL:=hid (SW.drewN S4.out nq)
           clear laA lbA HVA S4
           generalize wc.drewN nq=wl at SL ⊢
           clear nq eiA piA biA riA ejA pjA bjA rjA
           go_wp2
           go_meet
           case rel=>exact⟨false,rfl,SL,hid (by intro h;cases h)⟩
          | false =>
           have HLV:=hid hlv
           go_wp2_with fail
           obtain⟨iNA,hiNA⟩:∃zq,zq=xp:=⟨_,rfl⟩
           have eiA:((xp:Int)).toNat=iNA:=by omega
           have piA:(0:Int)≤(xp:Int):=by omega
           have biA:(xp:Int)<(n:Int):=by omega
           have riA:IntKind.i64.wrap ((xp:Int))=(xp:Int):=by rw [IntKind.wrap_i64];omega
           obtain⟨jNA,hjNA⟩:∃zq,zq=p:=⟨_,rfl⟩
           have ejA:((p:Int)).toNat=jNA:=by omega
           have pjA:(0:Int)≤(p:Int):=by omega
           have bjA:(p:Int)<(n:Int):=by omega
           have rjA:IntKind.i64.wrap ((p:Int))=(p:Int):=by rw [IntKind.wrap_i64];omega
           obtain⟨xA,hxA⟩:∃zx,zx=d3[xp]! :=⟨_,rfl⟩
           obtain⟨yA,hyA⟩:∃zx,zx=d3[p]! :=⟨_,rfl⟩
           have laA:wc.cell? ⟨blk,off+iNA,none⟩=some (.int .u8 xA):=by rw [hiNA,hxA];exact sb_cell S4.out R (by omega) (xp) (by omega)
           have lbA:wc.cell? ⟨blk,off+jNA,none⟩=some (.int .u8 yA):=by rw [hjNA,hyA];exact sb_cell S4.out R (by omega) (p) (by omega)
           have hvA:ltInt xA yA=false:=by rw [hxA,hyA];exact hlv
           have HVA:=hid hvA
           clear hxA hyA hiNA hjNA hvA
           go_wp2_with fail
           go_quiet ((go_at_call 204;exact Calls.quiet_of_same (less_q _ _ _ HVA.out _)))
           have SL:=hid (SW.drewN S4.out nq)
           clear laA lbA HVA S4
           generalize wc.drewN nq=wl at SL ⊢
           clear nq eiA piA biA riA ejA pjA bjA rjA
           go_wp2
           go_meet
           case rel=>exact⟨true,rfl,SL,hid fun _=>⟨by omega,HLV.out⟩⟩
         ·have hxz:¬(0:Int)<(x:Int):=by omega
          have hxd:decide ((0:Int)<(x:Int))=false:=decide_eq_false (by omega)
          have hxe:decide (0<x)=false:=decide_eq_false hx0
          go_wp2_with fail
          go_quiet (fail)
          have SL:=hid (SW.drewN S4.out nq)
          go_wp2
          go_meet
          case rel=>exact⟨false,rfl,SL,hid (by intro h;cases h)⟩
        case rest=>
         clear S4
         obtain⟨q,rfl,S5,HQ⟩:=hcut
         cases q with
         | true =>
          obtain⟨hx0,hnl⟩:=HQ.out (by first|rfl|trivial)
          have HNL:=hid hnl
          clear hnl HQ
          go_wp2_with fail
          refine(parEq_any blk off cap x y p n d0 d3 w0 _ R hs0 hs3 S5.out hp1 hp2 hyn hsz).mono ?_
          rintro e w6 ⟨m,d4,rfl,hx,hS6⟩
          have S6:=hid hS6
          obtain⟨r1,r2,r3,r4,r5⟩:=round_eq swo_ltInt (partitionEqual_holds ltInt) hx0 hp1 hp2 (by omega) HL3.out HNL.out hx
          have R4:Hid (LowB m y d4):=hid r4
          have R5:Hid (Fin a b d m y d4):=hid fun r h1 h2=>HF3.out r (r5 r h1 h2).1 (r5 r h1 h2).2
          have hs4:d4.size=n:=r3.trans hs3
          clear hx hS6 S5 r3 r4 r5 HL3 HF3 HNL
          go_wp2_with fail
          go_roundg (y-m)
          case measure=>omega
          case rel=>exact⟨m,y,l',wb,wp,d4,rfl,rfl,rfl,rfl,rfl,r2,hyn,hl',Nat.le_refl _,by omega,hs4,S6,R4,R5⟩
         | false =>
          clear HQ
          go_wp2_with fail
          refine(part_any blk off cap x y p n d0 d3 w0 _ R hs0 hs3 S5.out hp1 hp2 hyn hsz).mono ?_
          rintro e w6 ⟨m,ap,d4,rfl,hx,hS6⟩
          have S6:=hid hS6
          obtain⟨r1,r2,r3,r4,r5,r6,r7⟩:=round_part swo_ltInt (partition_holds ltInt) hp1 hp2 (by omega) HL3.out hx
          have hs4:d4.size=n:=r3.trans hs3
          have R4:=hid r4
          have R5:=hid r5
          have R6:=hid r6
          have R7:=hid r7
          clear hx hS6 S5 r3 r4 r5 r6 r7 HL3
          have hL0:(0:Int)≤(L:Int):=by omega
          have hm9:(m:Int)≤2305843009213693952:=by omega
          have hm0:(x:Int)≤(m:Int):=by omega
          have hm1:(m:Int)<(y:Int):=by omega
          have hy9:(y:Int)≤2305843009213693952:=by omega
          by_cases hml:m-x<y-m
          ·have hmz:(m:Int)-(x:Int)<(y:Int)-(m:Int):=by omega
           go_wp2_with (go_at_call 197;(refine(HIH.out (m-x) (by omega) blk off cap x m l' d0 d4 w0 _ R hs0 hs4 S6.out r1 (by omega) R4.out hl' (Nat.le_refl _)).mono ?_);rintro e w7 ⟨d5,rfl,q1,q2,hS7⟩;have S7:=hid hS7;have HR:=hid (R6.out d5 q1 q2);have hs5:d5.size=n:=q1.1.trans hs4;clear q1 q2 hS7)
           go_roundg (y-(m+1))
           case measure=>omega
           case rel=>exact⟨m+1,y,l',_,ap,d5,by go_num,rfl,rfl,rfl,rfl,by omega,hyn,hl',Nat.le_refl _,by omega,hs5,S7,hid HR.out.1,hid fun r h1 h2=>HF3.out r (HR.out.2 r h1 h2).1 (HR.out.2 r h1 h2).2⟩
          ·have hmz:¬(m:Int)-(x:Int)<(y:Int)-(m:Int):=by omega
           have HCL:Hid (∀W,SB w0 blk off d4 W→Calls Tryz.prog 197 #[.slice (some ⟨blk,off,none⟩) n cap,.int .i64 ((m:Int)+1),.int .i64 y,.int .i64 l'] W (Srt w0 blk off d4 (m+1) y)):=hid fun W hW=>HIH.out (y-(m+1)) (by omega) blk off cap (m+1) y l' d0 d4 w0 W R hs0 hs4 hW (by omega) hyn R5.out hl' (Nat.le_refl _)
           go_wp2_with (go_at_call 197;(refine(HCL.out _ S6.out).mono ?_);rintro e w7 ⟨d5,rfl,q1,q2,hS7⟩;have S7:=hid hS7;have HR:=hid (R7.out d5 q1 q2);have hs5:d5.size=n:=q1.1.trans hs4;clear q1 q2 hS7)
           go_roundg (m-x)
           case measure=>omega
           case rel=>exact⟨x,m,l',_,ap,d5,rfl,rfl,rfl,rfl,rfl,r1,by omega,hl',Nat.le_refl _,by omega,hs5,S7,hid HR.out.1,hid fun r h1 h2=>HF3.out r (HR.out.2 r h1 h2).1 (HR.out.2 r h1 h2).2⟩
end
section
open Go.RowKit

inductive Tr (α:Type) where
 | mk (x:α) (kids:List (Tr α))
namespace Tr
variable {α:Type}
def x:Tr α→α|mk a _=>a
def kids:Tr α→List (Tr α)|mk _ k=>k
end Tr
structure Kd (α:Type) where
 ρ:Type
 enc:ρ→List Value
 z:Nat
 E:TypeId
 kv:ρ→Value
 hz:∀r,(enc r).length=z
 rd:World→ρ→α→Prop
 own:Nat→World→ρ→α→(Nat→Prop)→Prop
 rd_below:∀ {w w' r x},rd w r x→Below w.heap.size w w'→rd w' r x
 own_rd:∀ {B w r x S},own B w r x S→rd w r x
 own_frame:∀ {B w w' r x S},own B w r x S→(∀b,S b→w'.heap[b]? =w.heap[b]?)→own B w' r x S
 own_lt:∀ {B w r x S},own B w r x S→∀b,S b→B≤b∧b<w.heap.size
 own_mono:∀ {B B' w r x S},own B w r x S→B'≤B→own B' w r x S
section
variable {α:Type}
def RdL (k:Kd α):Nat→World→Value→List (Tr α)→Prop
 | 0,w,v,l=>l=[]∧HasR k.enc k.z w v ([]:List k.ρ)
 | d+1,w,v,l=>∃R:List k.ρ,HasR k.enc k.z w v R∧R.length=l.length∧∀i (h:i<R.length) (h':i<l.length),k.rd w R[i] l[i].x∧RdL k d w (k.kv R[i]) l[i].kids
def RdN (k:Kd α)(d:Nat)(w:World)(r:k.ρ)(t:Tr α):Prop:=k.rd w r t.x∧RdL k d w (k.kv r) t.kids
def OwL (k:Kd α):Nat→Nat→World→Value→List (Tr α)→(Nat→Prop)→Prop
 | 0,B,w,v,l,S=>l=[]∧RowR k.enc k.z k.E B w v ([]:List k.ρ)∧∀b,S b↔v.ownBlock=some b
 | d + 1, B, w, v, l, S => ∃ (R : List k.ρ) (K : Nat → Nat → Prop), RowR k.enc k.z k.E B w v R ∧ R.length = l.length ∧
   (∀i (h:i<R.length) (h':i<l.length),∃S1 S2:Nat→Prop,k.own B w R[i] l[i].x S1∧OwL k d B w (k.kv R[i]) l[i].kids S2∧(∀b,S1 b→S2 b→False)∧∀b,K i b↔S1 b∨S2 b)∧
   (∀i j b,i<R.length→j<R.length→K i b→K j b→i=j)∧
   (∀i b,i<R.length→K i b→v.ownBlock≠some b)∧
   ∀b,S b↔v.ownBlock=some b∨∃i,i<R.length∧K i b
def OwN (k:Kd α)(d B:Nat)(w:World)(r:k.ρ)(t:Tr α)(S:Nat→Prop):Prop:=
 ∃S1 S2:Nat→Prop,k.own B w r t.x S1∧OwL k d B w (k.kv r) t.kids S2∧(∀b,S1 b→S2 b→False)∧∀b,S b↔S1 b∨S2 b
variable {k:Kd α} {d B B':Nat} {w w':World} {v:Value} {l:List (Tr α)} {S S':Nat→Prop} {r:k.ρ} {t:Tr α}

theorem RdL.below:∀ {d:Nat} {v:Value} {l:List (Tr α)},RdL k d w v l→Below w.heap.size w w'→RdL k d w' v l
 | 0,_,_,⟨h1,h2⟩,hb=>⟨h1,h2.below hb⟩
 | _+1,_,_,⟨R,h1,h2,h3⟩,hb=>⟨R,h1.below hb,h2,fun i h h'=>⟨k.rd_below (h3 i h h').1 hb,RdL.below (h3 i h h').2 hb⟩⟩
theorem RdN.below (h:RdN k d w r t)(hb:Below w.heap.size w w'):RdN k d w' r t:=⟨k.rd_below h.1 hb,h.2.below hb⟩
theorem RdL.form (h:RdL k d w v l):∃A cap,v=.slice A l.length cap:=by
 cases d with
 | zero=>obtain⟨rfl,A,cap,hv,_⟩:=h;exact⟨A,cap,hv⟩
 | succ d=>obtain⟨R,⟨A,cap,hv,_⟩,h2,_⟩:=h;exact⟨A,cap,by rw [←h2];exact hv⟩
theorem rowR_frame {α:Type}{enc:α→List Value}{z E B:Nat}{w w':World}{v:Value}{l:List α}(h:RowR enc z E B w v l)(hf:∀b,v.ownBlock=some b→w'.heap[b]? =w.heap[b]?):RowR enc z E B w' v l:=by
 refine⟨h.1,?_⟩
 rcases h.2 with hn|⟨g,cap,cur,rfl,hb,hg,rest⟩
 ·exact .inl hn
 ·exact .inr ⟨g,cap,cur,rfl,hb,(hf g rfl).trans hg,rest⟩
theorem OwL.frame:∀ {d:Nat} {v:Value} {l:List (Tr α)} {S:Nat→Prop},OwL k d B w v l S→(∀b,S b→w'.heap[b]? =w.heap[b]?)→OwL k d B w' v l S
 | 0,_,_,_,⟨h1,h2,h3⟩,hf=>⟨h1,rowR_frame h2 fun b hb=>hf b ((h3 b).2 hb),h3⟩
 | _ + 1, _, _, _, ⟨R, K, h1, h2, h3, h4, h5, h6⟩, hf => ⟨R, K, rowR_frame h1 fun b hb => hf b ((h6 b).2 (.inl hb)), h2, fun i h h' => by
   obtain⟨S1,S2,a,b,c,e⟩:=h3 i h h'
   exact⟨S1,S2,k.own_frame a fun q hq=>hf q ((h6 q).2 (.inr ⟨i,h,(e q).2 (.inl hq)⟩)),OwL.frame b fun q hq=>hf q ((h6 q).2 (.inr ⟨i,h,(e q).2 (.inr hq)⟩)),c,e⟩,h4,h5,h6⟩
theorem OwN.frame (h:OwN k d B w r t S)(hf:∀b,S b→w'.heap[b]? =w.heap[b]?):OwN k d B w' r t S:=by
 obtain⟨S1,S2,a,b,c,e⟩:=h
 exact⟨S1,S2,k.own_frame a fun q hq=>hf q ((e q).2 (.inl hq)),b.frame fun q hq=>hf q ((e q).2 (.inr hq)),c,e⟩
theorem OwL.lt:∀ {d:Nat} {v:Value} {l:List (Tr α)} {S:Nat→Prop},OwL k d B w v l S→∀b,S b→B≤b∧b<w.heap.size
 | 0,_,_,_,⟨_,h2,h3⟩,b,hb=>h2.lt ((h3 b).1 hb)
 | _ + 1, _, _, _, ⟨R, K, h1, h2, h3, _, _, h6⟩, b, hb => by
   rcases(h6 b).1 hb with hv|⟨i,hi,hk⟩
   ·exact h1.lt hv
   ·obtain⟨S1,S2,a,c,_,e⟩:=h3 i hi (by rw [←h2];exact hi)
    rcases(e b).1 hk with h|h
    ·exact k.own_lt a b h
    ·exact OwL.lt c b h
theorem OwN.lt (h:OwN k d B w r t S):∀b,S b→B≤b∧b<w.heap.size:=fun b hb=>by
 obtain⟨S1,S2,a,c,_,e⟩:=h
 rcases(e b).1 hb with h|h
 ·exact k.own_lt a b h
 ·exact c.lt b h
theorem OwL.rd:∀ {d:Nat} {v:Value} {l:List (Tr α)} {S:Nat→Prop},OwL k d B w v l S→RdL k d w v l
 | 0,_,_,_,⟨h1,h2,_⟩=>⟨h1,h2.has k.hz⟩
 | _ + 1, _, _, _, ⟨R, _, h1, h2, h3, _⟩ => ⟨R, h1.has k.hz, h2, fun i h h' => by
   obtain⟨S1,S2,a,b,_⟩:=h3 i h h'
   exact⟨k.own_rd a,b.rd⟩⟩
theorem OwN.rd (h:OwN k d B w r t S):RdN k d w r t:=by
 obtain⟨S1,S2,a,b,_⟩:=h
 exact⟨k.own_rd a,b.rd⟩
theorem OwL.mono:∀ {d:Nat} {v:Value} {l:List (Tr α)} {S:Nat→Prop},OwL k d B w v l S→B'≤B→OwL k d B' w v l S
 | 0,_,_,_,⟨h1,h2,h3⟩,hb=>⟨h1,h2.mono hb,h3⟩
 | _ + 1, _, _, _, ⟨R, K, h1, h2, h3, h4⟩, hb => ⟨R, K, h1.mono hb, h2, fun i h h' => by
   obtain⟨S1,S2,a,b,c⟩:=h3 i h h'
   exact⟨S1,S2,k.own_mono a hb,OwL.mono b hb,c⟩,h4⟩
theorem OwN.mono (h:OwN k d B w r t S)(hb:B'≤B):OwN k d B' w r t S:=by
 obtain⟨S1,S2,a,b,c⟩:=h
 exact⟨S1,S2,k.own_mono a hb,b.mono hb,c⟩
theorem OwL.deeper:∀ {d:Nat} {v:Value} {l:List (Tr α)} {S:Nat→Prop},OwL k d B w v l S→OwL k (d+1) B w v l S
 | 0,_,_,_,⟨h1,h2,h3⟩=>⟨[],fun _ _=>False,h2,by rw [h1];rfl,fun i h=>absurd h (by simp),fun i _ _ h=>absurd h (by simp),fun i _ h=>absurd h (by simp),fun b=>by simp [h3 b]⟩
 | _ + 1, _, _, _, ⟨R, K, h1, h2, h3, h4⟩ => ⟨R, K, h1, h2, fun i h h' => by
   obtain⟨S1,S2,a,b,c⟩:=h3 i h h'
   exact⟨S1,S2,a,OwL.deeper b,c⟩,h4⟩
theorem OwL.to {e:Nat}(h:OwL k d B w v l S)(he:d≤e):OwL k e B w v l S:=by
 obtain⟨j,rfl⟩:=Nat.le.dest he
 induction j with
 | zero=>exact h
 | succ j ih=>exact(ih (Nat.le_add_right _ _)).deeper
theorem OwN.to {e:Nat}(h:OwN k d B w r t S)(he:d≤e):OwN k e B w r t S:=by
 obtain⟨S1,S2,a,b,c⟩:=h
 exact⟨S1,S2,a,b.to he,c⟩
theorem OwL.form (h:OwL k d B w v l S):(v=.slice none 0 0∧l=[])∨∃g cap,v=.slice (some ⟨g,0,none⟩) l.length cap∧B≤g∧g<w.heap.size:=by
 cases d with
 | zero =>
  obtain⟨rfl,h2,_⟩:=h
  rcases h2.form with ⟨h1,_⟩|h1
  ·exact .inl ⟨h1,rfl⟩
  ·exact .inr h1
 | succ d =>
  obtain⟨R,K,h1,h2,_⟩:=h
  rcases h1.form with ⟨h3,rfl⟩|h3
  ·exact .inl ⟨h3,List.length_eq_zero_iff.1 (by rw [←h2];rfl)⟩
  ·rw [h2]at h3;exact .inr h3
theorem OwL.below (h:OwL k d B w v l S)(hb:Below w.heap.size w w'):OwL k d B w' v l S:=h.frame fun b hs=>hb.block b (h.lt b hs).2
theorem OwN.below (h:OwN k d B w r t S)(hb:Below w.heap.size w w'):OwN k d B w' r t S:=h.frame fun b hs=>hb.block b (h.lt b hs).2
theorem owL_nil (k:Kd α)(d B:Nat)(w:World):OwL k d B w (.slice none 0 0) [] (fun _=>False):=by
 have h:OwL k 0 B w (.slice none 0 0) [] (fun _=>False):=⟨rfl,⟨by simp,.inl ⟨rfl,rfl⟩⟩,fun b=>by simp [Value.ownBlock]⟩
 exact h.to (Nat.zero_le d)
theorem owL_new (k:Kd α)(d B:Nat)(w:World)(hB:B≤w.heap.size):OwL k d B (w.alloc (.cells #[] k.E)) (.slice (some ⟨w.heap.size,0,none⟩) 0 0) [] (fun b=>b=w.heap.size):=by
 have h:OwL k 0 B (w.alloc (.cells #[] k.E)) (.slice (some ⟨w.heap.size,0,none⟩) 0 0) [] (fun b=>b=w.heap.size):=
  ⟨rfl,rowR_empty (heap_alloc_new w _) hB,fun b=>by simp [Value.ownBlock,eq_comm]⟩
 exact h.to (Nat.zero_le d)
theorem OwL.grow (h:OwL k (d+1) B w v l S):∃R:List k.ρ,RowR k.enc k.z k.E B w v R∧R.length=l.length∧∀ {w':World} {v':Value} {r:k.ρ} {t:Tr α} {Sr:Nat→Prop},OwN k d B w r t Sr→(∀b,S b→Sr b→False)→RowR k.enc k.z k.E B w' v' (R++ [r])→w.grownBy w' v.ownBlock→(v'.ownBlock=v.ownBlock∨∃g,v'.ownBlock=some g∧w.heap.size≤g)→
  OwL k (d+1) B w' v' (l++ [t]) (fun b=>v'.ownBlock=some b∨(S b∧v.ownBlock≠some b)∨Sr b):=by
 obtain⟨R0,K,h1,h2,h3,h4,h5,h6⟩:=h
 refine⟨R0,h1,h2,?_⟩
 intro w' v' r t Sr hr hdis hrow hg hv
 have hKlt:∀i b,i<R0.length→K i b→B≤b∧b<w.heap.size:=fun i b hi hk=>by
  obtain⟨S1,S2,a,c,_,e⟩:=h3 i hi (by rw [←h2];exact hi)
  rcases(e b).1 hk with hh|hh
  ·exact k.own_lt a b hh
  ·exact c.lt b hh
 have hKf:∀i b,i<R0.length→K i b→w'.heap[b]? =w.heap[b]? :=fun i b hi hk=>hg.block b (hKlt i b hi hk).2 (fun e=>h5 i b hi hk e.symm)
 have hrf:∀b,Sr b→w'.heap[b]? =w.heap[b]? :=fun b hb=>hg.block b (hr.lt b hb).2 (fun e=>hdis b ((h6 b).2 (.inl e.symm)) hb)
 have hr':=hr.frame hrf
 refine⟨R0++ [r],fun i b=>(i<R0.length∧K i b)∨(i=R0.length∧Sr b),hrow,by simp [h2],fun i hi hi'=>?_,fun i j b hi hj hki hkj=>?_,fun i b hi hk=>?_,fun b=>?_⟩
 ·by_cases hlt:i<R0.length
  ·obtain⟨S1,S2,a,c,e,f⟩:=h3 i hlt (by rw [←h2];exact hlt)
   have g1:(R0++ [r])[i]=R0[i]:=List.getElem_append_left hlt
   have g2:(l++ [t])[i]=l[i]'(by rw [←h2];exact hlt):=List.getElem_append_left (by rw [←h2];exact hlt)
   rw [g1,g2]
   exact⟨S1,S2,k.own_frame a fun b hb=>hKf i b hlt ((f b).2 (.inl hb)),c.frame fun b hb=>hKf i b hlt ((f b).2 (.inr hb)),e,fun b=>by
    constructor
    ·rintro(⟨_,hk⟩|⟨he,_⟩)
     ·exact(f b).1 hk
     ·omega
    ·intro hs;exact .inl ⟨hlt,(f b).2 hs⟩⟩
  ·have hi2:i=R0.length:=by simp at hi;omega
   subst hi2
   have g1:(R0++ [r])[R0.length]=r:=by simp
   have g2:(l++ [t])[R0.length]=t:=by rw [List.getElem_append_right (by omega)];simp [h2]
   rw [g1,g2]
   obtain⟨S1,S2,a,c,e,f⟩:=hr'
   exact⟨S1,S2,a,c,e,fun b=>by
    constructor
    ·rintro(⟨hlt,_⟩|⟨_,hk⟩)
     ·omega
     ·exact(f b).1 hk
    ·intro hs;exact .inr ⟨rfl,(f b).2 hs⟩⟩
 ·rcases hki with ⟨hi',hki⟩|⟨hi',hki⟩<;>rcases hkj with ⟨hj',hkj⟩|⟨hj',hkj⟩
  ·exact h4 i j b hi' hj' hki hkj
  ·exact absurd hkj (fun hh=>hdis b ((h6 b).2 (.inr ⟨i,hi',hki⟩)) hh)
  ·exact absurd hki (fun hh=>hdis b ((h6 b).2 (.inr ⟨j,hj',hkj⟩)) hh)
  ·omega
 ·have hblt:b<w.heap.size∧v.ownBlock≠some b:=by
   rcases hk with ⟨hi',hk⟩|⟨_,hk⟩
   ·exact⟨(hKlt i b hi' hk).2,h5 i b hi' hk⟩
   ·exact⟨(hr.lt b hk).2,fun e=>hdis b ((h6 b).2 (.inl e)) hk⟩
  rcases hv with hv|⟨g,hv,hgl⟩
  ·rw [hv];exact hblt.2
  ·rw [hv];intro e;have:=Option.some.inj e;omega
 ·constructor
  ·rintro(hh|⟨hs,hne⟩|hs)
   ·exact .inl hh
   ·rcases(h6 b).1 hs with hh|⟨i,hi,hk⟩
    ·exact absurd hh hne
    ·exact .inr ⟨i,by simp;omega,.inl ⟨hi,hk⟩⟩
   ·exact .inr ⟨R0.length,by simp,.inr ⟨rfl,hs⟩⟩
  ·rintro(hh|⟨i,hi,⟨hi',hk⟩|⟨hi',hk⟩⟩)
   ·exact .inl hh
   ·exact .inr (.inl ⟨(h6 b).2 (.inr ⟨i,hi',hk⟩),h5 i b hi' hk⟩)
   ·exact .inr (.inr hk)
theorem OwL.parts (h:OwL k (d+1) B w v l S):∃(R:List k.ρ) (K:Nat→Nat→Prop),RowR k.enc k.z k.E B w v R∧R.length=l.length∧(∀i (h:i<R.length) (h':i<l.length),OwN k d B w R[i] l[i] (K i))∧
   (∀i j b,i<R.length→j<R.length→K i b→K j b→i=j)∧(∀i b,i<R.length→K i b→v.ownBlock≠some b)∧∀b,S b↔v.ownBlock=some b∨∃i,i<R.length∧K i b:=h
theorem OwL.whole {R:List k.ρ}{K:Nat→Nat→Prop}(h1:RowR k.enc k.z k.E B w v R)(h2:R.length=l.length)(h3:∀i (h:i<R.length) (h':i<l.length),OwN k d B w R[i] l[i] (K i))
   (h4:∀i j b,i<R.length→j<R.length→K i b→K j b→i=j) (h5:∀i b,i<R.length→K i b→v.ownBlock≠some b) (h6:∀b,S b↔v.ownBlock=some b∨∃i,i<R.length∧K i b):OwL k (d+1) B w v l S:=⟨R,K,h1,h2,h3,h4,h5,h6⟩
theorem owL_one (h:OwN k d B w r t S)(hB:B≤w.heap.size)(h0:0<k.z)(hc:∀v∈k.enc r,v.oneCell'=true):OwL k (d+1) B (w.alloc (.cells (k.enc r).toArray k.E)) (.slice (some ⟨w.heap.size,0,none⟩) 1 1) [t] (fun b=>b=w.heap.size∨S b):=by
 have hb:=h.below ((Below.refl w.heap.size w).alloc (Nat.le_refl _) (.cells (k.enc r).toArray k.E))
 refine OwL.whole (R:=[r]) (K:=fun _=>S) ⟨by simp [k.hz],.inr ⟨w.heap.size,1,(k.enc r).toArray,rfl,hB,heap_alloc_new w _,by simp,by unfold maxLen;omega,by simp [k.hz],by simp [List.take_of_length_le (Nat.le_of_eq (k.hz r))]⟩⟩ rfl ?_ ?_ ?_ ?_
 ·intro i hi hi'
  obtain rfl:i=0:=by simp at hi;omega
  exact hb
 ·intro i j b hi hj _ _;simp at hi hj;omega
 ·intro i b _ hk e
  have:=(h.lt b hk).2
  have:=Option.some.inj e
  simp at this;omega
 ·intro b
  constructor
  ·rintro(rfl|hs)
   ·exact .inl rfl
   ·exact .inr ⟨0,by simp,hs⟩
  ·rintro(e|⟨_,_,hs⟩)
   ·have:=Option.some.inj e;exact .inl this.symm
   ·exact .inr hs
structure TurnsAt (S:Nat→Prop) (w w':World):Prop where
 os:w'.os=w.os
 tape:w'.tape=w.tape
 output:w'.output=w.output
 size:w.heap.size≤w'.heap.size
 block:∀b,b<w.heap.size→¬S b→w'.heap[b]? =w.heap[b]?
variable {w'':World}
theorem TurnsAt.refl (S:Nat→Prop)(w:World):TurnsAt S w w:=⟨rfl,rfl,rfl,Nat.le_refl _,fun _ _ _=>rfl⟩
theorem TurnsAt.trans (h:TurnsAt S w w')(h':TurnsAt S w' w''):TurnsAt S w w'':=
 ⟨h'.os.trans h.os,h'.tape.trans h.tape,h'.output.trans h.output,Nat.le_trans h.size h'.size,fun b hb hs=>(h'.block b (Nat.lt_of_lt_of_le hb h.size) hs).trans (h.block b hb hs)⟩
theorem below_turns (h:Below w.heap.size w w'):TurnsAt S w w':=⟨h.os,h.tape,h.output,h.size,fun b hb _=>h.block b hb⟩
theorem TurnsAt.below (h:TurnsAt S w w'){B:Nat}(hb:B≤w.heap.size)(hs:∀b,S b→B≤b):Below B w w':=⟨h.os,h.tape,h.output,h.size,fun b hlt=>h.block b (Nat.lt_of_lt_of_le hlt hb) fun hh=>Nat.lt_irrefl _ (Nat.lt_of_lt_of_le hlt (hs b hh))⟩
theorem OwL.apart (h:OwL k d B w v l S)(ht:TurnsAt S' w w')(hd:∀b,S b→S' b→False):OwL k d B w' v l S:=h.frame fun b hb=>ht.block b (h.lt b hb).2 (hd b hb)
theorem OwN.apart (h:OwN k d B w r t S)(ht:TurnsAt S' w w')(hd:∀b,S b→S' b→False):OwN k d B w' r t S:=h.frame fun b hb=>ht.block b (h.lt b hb).2 (hd b hb)
theorem rowR_apart {α:Type}{enc:α→List Value}{z E B:Nat}{w w':World}{v:Value}{l:List α}{S':Nat→Prop}(h:RowR enc z E B w v l)(ht:TurnsAt S' w w')(hd:∀b,v.ownBlock=some b→S' b→False):RowR enc z E B w' v l:=
 rowR_frame h fun b hb=>ht.block b (h.lt hb).2 (hd b hb)
theorem OwL.set {b j:Nat}{u:Value}(h:OwL k d B w v l S)(hb:b<B):OwL k d B (w.setCell ⟨b,j,none⟩ u) v l S:=h.frame fun q hq=>Below.heap_setCell w ⟨b,j,none⟩ u q (fun e=>by have:=(h.lt q hq).1;simp at e;omega)
theorem OwN.set {b j:Nat}{u:Value}(h:OwN k d B w r t S)(hb:b<B):OwN k d B (w.setCell ⟨b,j,none⟩ u) r t S:=h.frame fun q hq=>Below.heap_setCell w ⟨b,j,none⟩ u q (fun e=>by have:=(h.lt q hq).1;simp at e;omega)
theorem OwL.al (h:OwL k d B w v l S)(o:Obj):OwL k d B (w.alloc o) v l S:=h.below ((Below.refl _ _).alloc (Nat.le_refl _) _)
theorem OwN.al (h:OwN k d B w r t S)(o:Obj):OwN k d B (w.alloc o) r t S:=h.below ((Below.refl _ _).alloc (Nat.le_refl _) _)
theorem below_set {W W':World}{b j:Nat}{u:Value}(h:Below W.heap.size W W')(hb:W.heap.size≤b):Below W.heap.size W (W'.setCell ⟨b,j,none⟩ u):=h.setCell (p:=⟨b,j,none⟩) hb u
theorem owL_two {r2:k.ρ}{t2:Tr α}{S2:Nat→Prop}(h:OwN k d B w r t S)(h2:OwN k d B w r2 t2 S2)(hd:∀b,S b→S2 b→False)(hB:B≤w.heap.size):
  OwL k (d+1) B (w.alloc (.cells (k.enc r++k.enc r2).toArray k.E)) (.slice (some ⟨w.heap.size,0,none⟩) 2 2) [t,t2] (fun b=>b=w.heap.size∨S b∨S2 b):=by
 have hb:=h.al (.cells (k.enc r++k.enc r2).toArray k.E)
 have hb2:=h2.al (.cells (k.enc r++k.enc r2).toArray k.E)
 have hlen:(k.enc r++k.enc r2).length=2*k.z:=by rw [List.length_append,k.hz,k.hz];omega
 refine OwL.whole (R:=[r,r2]) (K:=fun i=>if i=0 then S else S2) ⟨by simp [k.hz];omega,.inr ⟨w.heap.size,2,(k.enc r++k.enc r2).toArray,rfl,hB,heap_alloc_new w _,by simp,by unfold maxLen;omega,by simpa using hlen,by simp [List.take_of_length_le (Nat.le_of_eq hlen)]⟩⟩ rfl ?_ ?_ ?_ ?_
 ·intro i hi hi'
  match i,hi with
  | 0,_=>exact hb
  | 1,_=>exact hb2
 ·intro i j b hi hj hki hkj
  match i,j,hi,hj with
  | 0,0,_,_=>rfl
  | 1,1,_,_=>rfl
  | 0,1,_,_=>exact absurd hkj (fun hh=>hd b hki hh)
  | 1,0,_,_=>exact absurd hki (fun hh=>hd b hkj hh)
 ·intro i b hi hk e
  have:b<w.heap.size:=by
   match i,hi with
   | 0,_=>exact(h.lt b hk).2
   | 1,_=>exact(h2.lt b hk).2
  have:=Option.some.inj e
  simp at this;omega
 ·intro b
  constructor
  ·rintro(rfl|hs|hs)
   ·exact .inl rfl
   ·exact .inr ⟨0,by simp,hs⟩
   ·exact .inr ⟨1,by simp,hs⟩
  ·rintro(e|⟨i,hi,hs⟩)
   ·have:=Option.some.inj e;exact .inl this.symm
   ·match i,hi with
    | 0,_=>exact .inr (.inl hs)
    | 1,_=>exact .inr (.inr hs)
end
end
end Go.Proofs.YtecladbckadijaaGreatDoor
