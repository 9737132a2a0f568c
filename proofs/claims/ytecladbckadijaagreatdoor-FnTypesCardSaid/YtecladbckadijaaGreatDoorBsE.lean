/- MERGED for a claim. -/
import Derived.Test.YtecladbckadijaaGreatDoorBsB
import Derived.Sort.LotD1
set_option linter.unusedVariables false
set_option linter.unusedSimpArgs false
set_option maxRecDepth 100000
set_option maxHeartbeats 16000000
namespace Go.Proofs.YtecladbckadijaaGreatDoor
open Go.Lib (hid)
section
open Go.RowKit Go.Sort

section
variable {α:Type} [Inhabited α] (lt:α→α→Bool)
theorem sift_end (hi first root:Nat)(d:Array α)(h:hi≤2*root+1):siftDown lt hi first root d=d:=by rw [siftDown,dif_pos h]
def kid2 (hi first root:Nat)(d:Array α):Bool:=decide (2*root+1+1<hi)&&lt d[first+(2*root+1)]! d[first+(2*root+1)+1]!
theorem sift_stop2 (hi first root:Nat)(d:Array α)(h:2*root+1<hi)(hk:kid2 lt hi first root d=true)(hl:lt d[first+root]! d[first+(2*root+2)]! =false):siftDown lt hi first root d=d:=by
 unfold kid2 at hk
 rw [siftDown,dif_neg (by omega),if_pos hk,hl];rfl
theorem sift_go2 (hi first root:Nat)(d:Array α)(h:2*root+1<hi)(hk:kid2 lt hi first root d=true)(hl:lt d[first+root]! d[first+(2*root+2)]! =true):siftDown lt hi first root d=siftDown lt hi first (2*root+2) (swp d (first+root) (first+(2*root+2))):=by
 unfold kid2 at hk
 have h2:2*root+2<hi:=by simp at hk;omega
 rw [siftDown,dif_neg (by omega),if_pos hk,hl,if_neg (by decide),dif_pos h2]
theorem sift_stop1 (hi first root:Nat)(d:Array α)(h:2*root+1<hi)(hk:kid2 lt hi first root d=false)(hl:lt d[first+root]! d[first+(2*root+1)]! =false):siftDown lt hi first root d=d:=by
 unfold kid2 at hk
 rw [siftDown,dif_neg (by omega),hk,if_neg (by decide),hl];rfl
theorem sift_go1 (hi first root:Nat)(d:Array α)(h:2*root+1<hi)(hk:kid2 lt hi first root d=false)(hl:lt d[first+root]! d[first+(2*root+1)]! =true):siftDown lt hi first root d=siftDown lt hi first (2*root+1) (swp d (first+root) (first+(2*root+1))):=by
 unfold kid2 at hk
 rw [siftDown,dif_neg (by omega),hk,if_neg (by decide),hl,if_neg (by decide)]
end
theorem sift_any (blk off cap lo hi first n:Nat)(d0 d:Array Int)(w0 w:World)(R:RB w0 blk off d0)(hs0:d0.size=n)(hsd:d.size=n)(S:SB w0 blk off d w)(hfh:first+hi≤n)(hlo:lo≤n)(hsz:n<2305843009213693952):
  Calls Tryz.prog 207 #[.slice (some ⟨blk,off,none⟩) n cap,.int .i64 lo,.int .i64 hi,.int .i64 first] w fun e w'=>e=.returned (.tuple #[])∧SB w0 blk off (siftDown ltInt hi first lo d) w':=by
 have S0:=hid S
 clear S
 go_enter Tryz.func207,Tryz.ntmps207
 go_wp2
 go_loopg [8] (n+hi-lo) (fun g1 vr wr=>∃(rt:Nat) (dk:Array Int),vr=.int .i64 rt∧rt≤n∧n+hi-rt≤g1∧dk.size=n∧Hid (SB w0 blk off dk wr)∧Hid (siftDown ltInt hi first rt dk=siftDown ltInt hi first lo d))
 case atStart=>exact⟨lo,d,rfl,hlo,Nat.le_refl _,hsd,S0,hid rfl⟩
 case round=>
  clear S0
  obtain⟨rt,dk,rfl,hrn,hg1,hsk,S1,HO⟩:=hrel
  by_cases hc:2*rt+1<hi
  ·have hcz:¬(hi:Int)≤2*(rt:Int)+1:=by omega
   by_cases hc2:2*rt+1+1<hi
   ·have hg2:decide (2*(rt:Int)+1+1<(hi:Int))=true:=by simp;omega
    have hg3:2*(rt:Int)+1+1<(hi:Int):=by omega
    cases hlv:ltInt dk[first+(2*rt+1)]! dk[first+(2*rt+1)+1]! with
    | true =>
     have hk:kid2 ltInt hi first rt dk=true:=by unfold kid2;rw [hlv];simp;omega
     have HK:=hid hk
     clear hk
     go_wp2_with fail
     obtain⟨iNA,hiNA⟩:∃zq,zq=first+(2*rt+1):=⟨_,rfl⟩
     have eiA:((first:Int)+(2*(rt:Int)+1)).toNat=iNA:=by omega
     have piA:(0:Int)≤(first:Int)+(2*(rt:Int)+1):=by omega
     have biA:(first:Int)+(2*(rt:Int)+1)<(n:Int):=by omega
     have riA:IntKind.i64.wrap ((first:Int)+(2*(rt:Int)+1))=(first:Int)+(2*(rt:Int)+1):=by rw [IntKind.wrap_i64];omega
     obtain⟨jNA,hjNA⟩:∃zq,zq=first+(2*rt+1)+1:=⟨_,rfl⟩
     have ejA:((first:Int)+(2*(rt:Int)+1)+1).toNat=jNA:=by omega
     have pjA:(0:Int)≤(first:Int)+(2*(rt:Int)+1)+1:=by omega
     have bjA:(first:Int)+(2*(rt:Int)+1)+1<(n:Int):=by omega
     have rjA:IntKind.i64.wrap ((first:Int)+(2*(rt:Int)+1)+1)=(first:Int)+(2*(rt:Int)+1)+1:=by rw [IntKind.wrap_i64];omega
     obtain⟨xA,hxA⟩:∃zx,zx=dk[first+(2*rt+1)]! :=⟨_,rfl⟩
     obtain⟨yA,hyA⟩:∃zx,zx=dk[first+(2*rt+1)+1]! :=⟨_,rfl⟩
     have laA:wr.cell? ⟨blk,off+iNA,none⟩=some (.int .u8 xA):=by rw [hiNA,hxA];exact sb_cell S1.out R (by omega) (first+(2*rt+1)) (by omega)
     have lbA:wr.cell? ⟨blk,off+jNA,none⟩=some (.int .u8 yA):=by rw [hjNA,hyA];exact sb_cell S1.out R (by omega) (first+(2*rt+1)+1) (by omega)
     have hvA:ltInt xA yA=true:=by rw [hxA,hyA];exact hlv
     have HVA:=hid hvA
     clear hxA hyA hiNA hjNA hvA
     go_wp2_with fail
     go_quiet ((go_at_call 204;exact Calls.quiet_of_same (less_q _ _ _ HVA.out _)))
     have S2:=hid (SW.drewN S1.out nq)
     clear laA lbA HVA S1
     generalize wr.drewN nq=w2 at S2 ⊢
     clear nq eiA piA biA riA ejA pjA bjA rjA
     clear hlv
     cases hl2:ltInt dk[first+rt]! dk[first+(2*rt+2)]! with
     | true =>
      have HGO:=hid ((sift_go2 ltInt hi first rt dk hc HK.out hl2).symm.trans HO.out)
      go_wp2_with fail
      obtain⟨iNB,hiNB⟩:∃zq,zq=first+rt:=⟨_,rfl⟩
      have eiB:((first:Int)+(rt:Int)).toNat=iNB:=by omega
      have piB:(0:Int)≤(first:Int)+(rt:Int):=by omega
      have biB:(first:Int)+(rt:Int)<(n:Int):=by omega
      have riB:IntKind.i64.wrap ((first:Int)+(rt:Int))=(first:Int)+(rt:Int):=by rw [IntKind.wrap_i64];omega
      obtain⟨jNB,hjNB⟩:∃zq,zq=first+(2*rt+2):=⟨_,rfl⟩
      have ejB:((first:Int)+(2*(rt:Int)+1+1)).toNat=jNB:=by omega
      have pjB:(0:Int)≤(first:Int)+(2*(rt:Int)+1+1):=by omega
      have bjB:(first:Int)+(2*(rt:Int)+1+1)<(n:Int):=by omega
      have rjB:IntKind.i64.wrap ((first:Int)+(2*(rt:Int)+1+1))=(first:Int)+(2*(rt:Int)+1+1):=by rw [IntKind.wrap_i64];omega
      obtain⟨xB,hxB⟩:∃zx,zx=dk[first+rt]! :=⟨_,rfl⟩
      obtain⟨yB,hyB⟩:∃zx,zx=dk[first+(2*rt+2)]! :=⟨_,rfl⟩
      have laB:w2.cell? ⟨blk,off+iNB,none⟩=some (.int .u8 xB):=by rw [hiNB,hxB];exact sb_cell S2.out R (by omega) (first+rt) (by omega)
      have lbB:w2.cell? ⟨blk,off+jNB,none⟩=some (.int .u8 yB):=by rw [hjNB,hyB];exact sb_cell S2.out R (by omega) (first+(2*rt+2)) (by omega)
      have hvB:ltInt xB yB=true:=by rw [hxB,hyB];exact hl2
      have HVB:=hid hvB
      clear hxB hyB hiNB hjNB hvB
      go_wp2_with fail
      go_quiet ((go_at_call 204;exact Calls.quiet_of_same (less_q _ _ _ HVB.out _)))
      have S3:=hid (SW.drewN S2.out nq)
      clear laB lbB HVB S2
      generalize w2.drewN nq=w3 at S3 ⊢
      clear nq eiB piB biB riB ejB pjB bjB rjB
      go_wp2_with fail
      obtain⟨iNC,hiNC⟩:∃zq,zq=first+rt:=⟨_,rfl⟩
      have eiC:((first:Int)+(rt:Int)).toNat=iNC:=by omega
      have piC:(0:Int)≤(first:Int)+(rt:Int):=by omega
      have biC:(first:Int)+(rt:Int)<(n:Int):=by omega
      have riC:IntKind.i64.wrap ((first:Int)+(rt:Int))=(first:Int)+(rt:Int):=by rw [IntKind.wrap_i64];omega
      obtain⟨jNC,hjNC⟩:∃zq,zq=first+(2*rt+2):=⟨_,rfl⟩
      have ejC:((first:Int)+(2*(rt:Int)+1+1)).toNat=jNC:=by omega
      have pjC:(0:Int)≤(first:Int)+(2*(rt:Int)+1+1):=by omega
      have bjC:(first:Int)+(2*(rt:Int)+1+1)<(n:Int):=by omega
      have rjC:IntKind.i64.wrap ((first:Int)+(2*(rt:Int)+1+1))=(first:Int)+(2*(rt:Int)+1+1):=by rw [IntKind.wrap_i64];omega
      obtain⟨xC,hxC⟩:∃zx,zx=dk[first+rt]! :=⟨_,rfl⟩
      obtain⟨yC,hyC⟩:∃zx,zx=dk[first+(2*rt+2)]! :=⟨_,rfl⟩
      have S4:Hid (SB w0 blk off (swp dk (first+rt) (first+(2*rt+2))) ((w3.setCell ⟨blk,off+iNC,none⟩ (.int .u8 yC)).setCell ⟨blk,off+jNC,none⟩ (.int .u8 xC)).drew):=hid (by rw [hiNC,hjNC,hxC,hyC];exact sb_swap S3.out R (first+rt) (first+(2*rt+2)) (by omega) (by omega))
      have caC:w3.cell? ⟨blk,off+iNC,none⟩=some (.int .u8 xC):=by rw [hiNC,hxC];exact sb_cell S3.out R (by omega) (first+rt) (by omega)
      have cbC:w3.cell? ⟨blk,off+jNC,none⟩=some (.int .u8 yC):=by rw [hjNC,hyC];exact sb_cell S3.out R (by omega) (first+(2*rt+2)) (by omega)
      have faC:w3.frozen? ⟨blk,off+iNC,none⟩=false:=by rw [hiNC];exact SW.f1 S3.out R (by omega) (first+rt) (by omega)
      have fbC:w3.frozen? ⟨blk,off+jNC,none⟩=false:=by rw [hjNC];exact SW.f1 S3.out R (by omega) (first+(2*rt+2)) (by omega)
      obtain⟨uC,ccC⟩:∃u,(w3.setCell ⟨blk,off+iNC,none⟩ (.int .u8 yC)).cell? ⟨blk,off+jNC,none⟩=some u:=by rw [hiNC,hjNC];exact SW.c2 S3.out R (by omega) (first+rt) (first+(2*rt+2)) (by omega) (by omega) (.int .u8 yC)
      clear S3 hxC hyC hiNC hjNC
      go_wp2_with fail
      go_region
      clear caC cbC ccC faC fbC
      generalize ((w3.setCell ⟨blk,off+iNC,none⟩ (.int .u8 yC)).setCell ⟨blk,off+jNC,none⟩ (.int .u8 xC)).drew=w4 at S4 ⊢
      clear eiC piC biC riC ejC pjC bjC rjC
      go_wp2
      go_roundg (n+hi-(2*rt+2))
      case measure=>omega
      case rel=>exact⟨2*rt+2,swp dk (first+rt) (first+(2*rt+2)),by go_num,by omega,Nat.le_refl _,by rw [size_swp];exact hsk,S4,HGO⟩
     | false =>
      have HST:=hid ((sift_stop2 ltInt hi first rt dk hc HK.out hl2).symm.trans HO.out)
      go_wp2_with fail
      obtain⟨iNB,hiNB⟩:∃zq,zq=first+rt:=⟨_,rfl⟩
      have eiB:((first:Int)+(rt:Int)).toNat=iNB:=by omega
      have piB:(0:Int)≤(first:Int)+(rt:Int):=by omega
      have biB:(first:Int)+(rt:Int)<(n:Int):=by omega
      have riB:IntKind.i64.wrap ((first:Int)+(rt:Int))=(first:Int)+(rt:Int):=by rw [IntKind.wrap_i64];omega
      obtain⟨jNB,hjNB⟩:∃zq,zq=first+(2*rt+2):=⟨_,rfl⟩
      have ejB:((first:Int)+(2*(rt:Int)+1+1)).toNat=jNB:=by omega
      have pjB:(0:Int)≤(first:Int)+(2*(rt:Int)+1+1):=by omega
      have bjB:(first:Int)+(2*(rt:Int)+1+1)<(n:Int):=by omega
      have rjB:IntKind.i64.wrap ((first:Int)+(2*(rt:Int)+1+1))=(first:Int)+(2*(rt:Int)+1+1):=by rw [IntKind.wrap_i64];omega
      obtain⟨xB,hxB⟩:∃zx,zx=dk[first+rt]! :=⟨_,rfl⟩
      obtain⟨yB,hyB⟩:∃zx,zx=dk[first+(2*rt+2)]! :=⟨_,rfl⟩
      have laB:w2.cell? ⟨blk,off+iNB,none⟩=some (.int .u8 xB):=by rw [hiNB,hxB];exact sb_cell S2.out R (by omega) (first+rt) (by omega)
      have lbB:w2.cell? ⟨blk,off+jNB,none⟩=some (.int .u8 yB):=by rw [hjNB,hyB];exact sb_cell S2.out R (by omega) (first+(2*rt+2)) (by omega)
      have hvB:ltInt xB yB=false:=by rw [hxB,hyB];exact hl2
      have HVB:=hid hvB
      clear hxB hyB hiNB hjNB hvB
      go_wp2_with fail
      go_quiet ((go_at_call 204;exact Calls.quiet_of_same (less_q _ _ _ HVB.out _)))
      have S3:=hid (SW.drewN S2.out nq)
      clear laB lbB HVB S2
      generalize w2.drewN nq=w3 at S3 ⊢
      clear nq eiB piB biB riB ejB pjB bjB rjB
      go_wp2
      refine bodyPost_ret (results_none rfl _ _ _) rfl ?_
      refine⟨rfl,?_⟩
      rw [←HST.out]
      exact S3.out
    | false =>
     have hk:kid2 ltInt hi first rt dk=false:=by unfold kid2;rw [hlv];simp
     have HK:=hid hk
     clear hk
     go_wp2_with fail
     obtain⟨iNA,hiNA⟩:∃zq,zq=first+(2*rt+1):=⟨_,rfl⟩
     have eiA:((first:Int)+(2*(rt:Int)+1)).toNat=iNA:=by omega
     have piA:(0:Int)≤(first:Int)+(2*(rt:Int)+1):=by omega
     have biA:(first:Int)+(2*(rt:Int)+1)<(n:Int):=by omega
     have riA:IntKind.i64.wrap ((first:Int)+(2*(rt:Int)+1))=(first:Int)+(2*(rt:Int)+1):=by rw [IntKind.wrap_i64];omega
     obtain⟨jNA,hjNA⟩:∃zq,zq=first+(2*rt+1)+1:=⟨_,rfl⟩
     have ejA:((first:Int)+(2*(rt:Int)+1)+1).toNat=jNA:=by omega
     have pjA:(0:Int)≤(first:Int)+(2*(rt:Int)+1)+1:=by omega
     have bjA:(first:Int)+(2*(rt:Int)+1)+1<(n:Int):=by omega
     have rjA:IntKind.i64.wrap ((first:Int)+(2*(rt:Int)+1)+1)=(first:Int)+(2*(rt:Int)+1)+1:=by rw [IntKind.wrap_i64];omega
     obtain⟨xA,hxA⟩:∃zx,zx=dk[first+(2*rt+1)]! :=⟨_,rfl⟩
     obtain⟨yA,hyA⟩:∃zx,zx=dk[first+(2*rt+1)+1]! :=⟨_,rfl⟩
     have laA:wr.cell? ⟨blk,off+iNA,none⟩=some (.int .u8 xA):=by rw [hiNA,hxA];exact sb_cell S1.out R (by omega) (first+(2*rt+1)) (by omega)
     have lbA:wr.cell? ⟨blk,off+jNA,none⟩=some (.int .u8 yA):=by rw [hjNA,hyA];exact sb_cell S1.out R (by omega) (first+(2*rt+1)+1) (by omega)
     have hvA:ltInt xA yA=false:=by rw [hxA,hyA];exact hlv
     have HVA:=hid hvA
     clear hxA hyA hiNA hjNA hvA
     go_wp2_with fail
     go_quiet ((go_at_call 204;exact Calls.quiet_of_same (less_q _ _ _ HVA.out _)))
     have S2:=hid (SW.drewN S1.out nq)
     clear laA lbA HVA S1
     generalize wr.drewN nq=w2 at S2 ⊢
     clear nq eiA piA biA riA ejA pjA bjA rjA
     clear hlv
     cases hl2:ltInt dk[first+rt]! dk[first+(2*rt+1)]! with
     | true =>
      have HGO:=hid ((sift_go1 ltInt hi first rt dk hc HK.out hl2).symm.trans HO.out)
      go_wp2_with fail
      obtain⟨iNB,hiNB⟩:∃zq,zq=first+rt:=⟨_,rfl⟩
      have eiB:((first:Int)+(rt:Int)).toNat=iNB:=by omega
      have piB:(0:Int)≤(first:Int)+(rt:Int):=by omega
      have biB:(first:Int)+(rt:Int)<(n:Int):=by omega
      have riB:IntKind.i64.wrap ((first:Int)+(rt:Int))=(first:Int)+(rt:Int):=by rw [IntKind.wrap_i64];omega
      obtain⟨jNB,hjNB⟩:∃zq,zq=first+(2*rt+1):=⟨_,rfl⟩
      have ejB:((first:Int)+(2*(rt:Int)+1)).toNat=jNB:=by omega
      have pjB:(0:Int)≤(first:Int)+(2*(rt:Int)+1):=by omega
      have bjB:(first:Int)+(2*(rt:Int)+1)<(n:Int):=by omega
      have rjB:IntKind.i64.wrap ((first:Int)+(2*(rt:Int)+1))=(first:Int)+(2*(rt:Int)+1):=by rw [IntKind.wrap_i64];omega
      obtain⟨xB,hxB⟩:∃zx,zx=dk[first+rt]! :=⟨_,rfl⟩
      obtain⟨yB,hyB⟩:∃zx,zx=dk[first+(2*rt+1)]! :=⟨_,rfl⟩
      have laB:w2.cell? ⟨blk,off+iNB,none⟩=some (.int .u8 xB):=by rw [hiNB,hxB];exact sb_cell S2.out R (by omega) (first+rt) (by omega)
      have lbB:w2.cell? ⟨blk,off+jNB,none⟩=some (.int .u8 yB):=by rw [hjNB,hyB];exact sb_cell S2.out R (by omega) (first+(2*rt+1)) (by omega)
      have hvB:ltInt xB yB=true:=by rw [hxB,hyB];exact hl2
      have HVB:=hid hvB
      clear hxB hyB hiNB hjNB hvB
      go_wp2_with fail
      go_quiet ((go_at_call 204;exact Calls.quiet_of_same (less_q _ _ _ HVB.out _)))
      have S3:=hid (SW.drewN S2.out nq)
      clear laB lbB HVB S2
      generalize w2.drewN nq=w3 at S3 ⊢
      clear nq eiB piB biB riB ejB pjB bjB rjB
      go_wp2_with fail
      obtain⟨iNC,hiNC⟩:∃zq,zq=first+rt:=⟨_,rfl⟩
      have eiC:((first:Int)+(rt:Int)).toNat=iNC:=by omega
      have piC:(0:Int)≤(first:Int)+(rt:Int):=by omega
      have biC:(first:Int)+(rt:Int)<(n:Int):=by omega
      have riC:IntKind.i64.wrap ((first:Int)+(rt:Int))=(first:Int)+(rt:Int):=by rw [IntKind.wrap_i64];omega
      obtain⟨jNC,hjNC⟩:∃zq,zq=first+(2*rt+1):=⟨_,rfl⟩
      have ejC:((first:Int)+(2*(rt:Int)+1)).toNat=jNC:=by omega
      have pjC:(0:Int)≤(first:Int)+(2*(rt:Int)+1):=by omega
      have bjC:(first:Int)+(2*(rt:Int)+1)<(n:Int):=by omega
      have rjC:IntKind.i64.wrap ((first:Int)+(2*(rt:Int)+1))=(first:Int)+(2*(rt:Int)+1):=by rw [IntKind.wrap_i64];omega
      obtain⟨xC,hxC⟩:∃zx,zx=dk[first+rt]! :=⟨_,rfl⟩
      obtain⟨yC,hyC⟩:∃zx,zx=dk[first+(2*rt+1)]! :=⟨_,rfl⟩
      have S4:Hid (SB w0 blk off (swp dk (first+rt) (first+(2*rt+1))) ((w3.setCell ⟨blk,off+iNC,none⟩ (.int .u8 yC)).setCell ⟨blk,off+jNC,none⟩ (.int .u8 xC)).drew):=hid (by rw [hiNC,hjNC,hxC,hyC];exact sb_swap S3.out R (first+rt) (first+(2*rt+1)) (by omega) (by omega))
      have caC:w3.cell? ⟨blk,off+iNC,none⟩=some (.int .u8 xC):=by rw [hiNC,hxC];exact sb_cell S3.out R (by omega) (first+rt) (by omega)
      have cbC:w3.cell? ⟨blk,off+jNC,none⟩=some (.int .u8 yC):=by rw [hjNC,hyC];exact sb_cell S3.out R (by omega) (first+(2*rt+1)) (by omega)
      have faC:w3.frozen? ⟨blk,off+iNC,none⟩=false:=by rw [hiNC];exact SW.f1 S3.out R (by omega) (first+rt) (by omega)
      have fbC:w3.frozen? ⟨blk,off+jNC,none⟩=false:=by rw [hjNC];exact SW.f1 S3.out R (by omega) (first+(2*rt+1)) (by omega)
      obtain⟨uC,ccC⟩:∃u,(w3.setCell ⟨blk,off+iNC,none⟩ (.int .u8 yC)).cell? ⟨blk,off+jNC,none⟩=some u:=by rw [hiNC,hjNC];exact SW.c2 S3.out R (by omega) (first+rt) (first+(2*rt+1)) (by omega) (by omega) (.int .u8 yC)
      clear S3 hxC hyC hiNC hjNC
      go_wp2_with fail
      go_region
      clear caC cbC ccC faC fbC
      generalize ((w3.setCell ⟨blk,off+iNC,none⟩ (.int .u8 yC)).setCell ⟨blk,off+jNC,none⟩ (.int .u8 xC)).drew=w4 at S4 ⊢
      clear eiC piC biC riC ejC pjC bjC rjC
      go_wp2
      go_roundg (n+hi-(2*rt+1))
      case measure=>omega
      case rel=>exact⟨2*rt+1,swp dk (first+rt) (first+(2*rt+1)),by go_num,by omega,Nat.le_refl _,by rw [size_swp];exact hsk,S4,HGO⟩
     | false =>
      have HST:=hid ((sift_stop1 ltInt hi first rt dk hc HK.out hl2).symm.trans HO.out)
      go_wp2_with fail
      obtain⟨iNB,hiNB⟩:∃zq,zq=first+rt:=⟨_,rfl⟩
      have eiB:((first:Int)+(rt:Int)).toNat=iNB:=by omega
      have piB:(0:Int)≤(first:Int)+(rt:Int):=by omega
      have biB:(first:Int)+(rt:Int)<(n:Int):=by omega
      have riB:IntKind.i64.wrap ((first:Int)+(rt:Int))=(first:Int)+(rt:Int):=by rw [IntKind.wrap_i64];omega
      obtain⟨jNB,hjNB⟩:∃zq,zq=first+(2*rt+1):=⟨_,rfl⟩
      have ejB:((first:Int)+(2*(rt:Int)+1)).toNat=jNB:=by omega
      have pjB:(0:Int)≤(first:Int)+(2*(rt:Int)+1):=by omega
      have bjB:(first:Int)+(2*(rt:Int)+1)<(n:Int):=by omega
      have rjB:IntKind.i64.wrap ((first:Int)+(2*(rt:Int)+1))=(first:Int)+(2*(rt:Int)+1):=by rw [IntKind.wrap_i64];omega
      obtain⟨xB,hxB⟩:∃zx,zx=dk[first+rt]! :=⟨_,rfl⟩
      obtain⟨yB,hyB⟩:∃zx,zx=dk[first+(2*rt+1)]! :=⟨_,rfl⟩
      have laB:w2.cell? ⟨blk,off+iNB,none⟩=some (.int .u8 xB):=by rw [hiNB,hxB];exact sb_cell S2.out R (by omega) (first+rt) (by omega)
      have lbB:w2.cell? ⟨blk,off+jNB,none⟩=some (.int .u8 yB):=by rw [hjNB,hyB];exact sb_cell S2.out R (by omega) (first+(2*rt+1)) (by omega)
      have hvB:ltInt xB yB=false:=by rw [hxB,hyB];exact hl2
      have HVB:=hid hvB
      clear hxB hyB hiNB hjNB hvB
      go_wp2_with fail
      go_quiet ((go_at_call 204;exact Calls.quiet_of_same (less_q _ _ _ HVB.out _)))
      have S3:=hid (SW.drewN S2.out nq)
      clear laB lbB HVB S2
      generalize w2.drewN nq=w3 at S3 ⊢
      clear nq eiB piB biB riB ejB pjB bjB rjB
      go_wp2
      refine bodyPost_ret (results_none rfl _ _ _) rfl ?_
      refine⟨rfl,?_⟩
      rw [←HST.out]
      exact S3.out
   ·have hg2:decide (2*(rt:Int)+1+1<(hi:Int))=false:=by simp;omega
    have hg3:¬2*(rt:Int)+1+1<(hi:Int):=by omega
    have hk:kid2 ltInt hi first rt dk=false:=by unfold kid2;simp;intro h;omega
    have HK:=hid hk
    clear hk
    go_wp2_with fail
    go_quiet (fail)
    have S2:=hid (SW.drewN S1.out nq)
    generalize wr.drewN nq=w2 at S2 ⊢
    clear nq S1
    cases hl2:ltInt dk[first+rt]! dk[first+(2*rt+1)]! with
    | true =>
     have HGO:=hid ((sift_go1 ltInt hi first rt dk hc HK.out hl2).symm.trans HO.out)
     go_wp2_with fail
     obtain⟨iNB,hiNB⟩:∃zq,zq=first+rt:=⟨_,rfl⟩
     have eiB:((first:Int)+(rt:Int)).toNat=iNB:=by omega
     have piB:(0:Int)≤(first:Int)+(rt:Int):=by omega
     have biB:(first:Int)+(rt:Int)<(n:Int):=by omega
     have riB:IntKind.i64.wrap ((first:Int)+(rt:Int))=(first:Int)+(rt:Int):=by rw [IntKind.wrap_i64];omega
     obtain⟨jNB,hjNB⟩:∃zq,zq=first+(2*rt+1):=⟨_,rfl⟩
     have ejB:((first:Int)+(2*(rt:Int)+1)).toNat=jNB:=by omega
     have pjB:(0:Int)≤(first:Int)+(2*(rt:Int)+1):=by omega
     have bjB:(first:Int)+(2*(rt:Int)+1)<(n:Int):=by omega
     have rjB:IntKind.i64.wrap ((first:Int)+(2*(rt:Int)+1))=(first:Int)+(2*(rt:Int)+1):=by rw [IntKind.wrap_i64];omega
     obtain⟨xB,hxB⟩:∃zx,zx=dk[first+rt]! :=⟨_,rfl⟩
     obtain⟨yB,hyB⟩:∃zx,zx=dk[first+(2*rt+1)]! :=⟨_,rfl⟩
     have laB:w2.cell? ⟨blk,off+iNB,none⟩=some (.int .u8 xB):=by rw [hiNB,hxB];exact sb_cell S2.out R (by omega) (first+rt) (by omega)
     have lbB:w2.cell? ⟨blk,off+jNB,none⟩=some (.int .u8 yB):=by rw [hjNB,hyB];exact sb_cell S2.out R (by omega) (first+(2*rt+1)) (by omega)
     have hvB:ltInt xB yB=true:=by rw [hxB,hyB];exact hl2
     have HVB:=hid hvB
     clear hxB hyB hiNB hjNB hvB
     go_wp2_with fail
     go_quiet ((go_at_call 204;exact Calls.quiet_of_same (less_q _ _ _ HVB.out _)))
     have S3:=hid (SW.drewN S2.out nq)
     clear laB lbB HVB S2
     generalize w2.drewN nq=w3 at S3 ⊢
     clear nq eiB piB biB riB ejB pjB bjB rjB
     go_wp2_with fail
     obtain⟨iNC,hiNC⟩:∃zq,zq=first+rt:=⟨_,rfl⟩
     have eiC:((first:Int)+(rt:Int)).toNat=iNC:=by omega
     have piC:(0:Int)≤(first:Int)+(rt:Int):=by omega
     have biC:(first:Int)+(rt:Int)<(n:Int):=by omega
     have riC:IntKind.i64.wrap ((first:Int)+(rt:Int))=(first:Int)+(rt:Int):=by rw [IntKind.wrap_i64];omega
     obtain⟨jNC,hjNC⟩:∃zq,zq=first+(2*rt+1):=⟨_,rfl⟩
     have ejC:((first:Int)+(2*(rt:Int)+1)).toNat=jNC:=by omega
     have pjC:(0:Int)≤(first:Int)+(2*(rt:Int)+1):=by omega
     have bjC:(first:Int)+(2*(rt:Int)+1)<(n:Int):=by omega
     have rjC:IntKind.i64.wrap ((first:Int)+(2*(rt:Int)+1))=(first:Int)+(2*(rt:Int)+1):=by rw [IntKind.wrap_i64];omega
     obtain⟨xC,hxC⟩:∃zx,zx=dk[first+rt]! :=⟨_,rfl⟩
     obtain⟨yC,hyC⟩:∃zx,zx=dk[first+(2*rt+1)]! :=⟨_,rfl⟩
     have S4:Hid (SB w0 blk off (swp dk (first+rt) (first+(2*rt+1))) ((w3.setCell ⟨blk,off+iNC,none⟩ (.int .u8 yC)).setCell ⟨blk,off+jNC,none⟩ (.int .u8 xC)).drew):=hid (by rw [hiNC,hjNC,hxC,hyC];exact sb_swap S3.out R (first+rt) (first+(2*rt+1)) (by omega) (by omega))
     have caC:w3.cell? ⟨blk,off+iNC,none⟩=some (.int .u8 xC):=by rw [hiNC,hxC];exact sb_cell S3.out R (by omega) (first+rt) (by omega)
     have cbC:w3.cell? ⟨blk,off+jNC,none⟩=some (.int .u8 yC):=by rw [hjNC,hyC];exact sb_cell S3.out R (by omega) (first+(2*rt+1)) (by omega)
     have faC:w3.frozen? ⟨blk,off+iNC,none⟩=false:=by rw [hiNC];exact SW.f1 S3.out R (by omega) (first+rt) (by omega)
     have fbC:w3.frozen? ⟨blk,off+jNC,none⟩=false:=by rw [hjNC];exact SW.f1 S3.out R (by omega) (first+(2*rt+1)) (by omega)
     obtain⟨uC,ccC⟩:∃u,(w3.setCell ⟨blk,off+iNC,none⟩ (.int .u8 yC)).cell? ⟨blk,off+jNC,none⟩=some u:=by rw [hiNC,hjNC];exact SW.c2 S3.out R (by omega) (first+rt) (first+(2*rt+1)) (by omega) (by omega) (.int .u8 yC)
     clear S3 hxC hyC hiNC hjNC
     go_wp2_with fail
     go_region
     clear caC cbC ccC faC fbC
     generalize ((w3.setCell ⟨blk,off+iNC,none⟩ (.int .u8 yC)).setCell ⟨blk,off+jNC,none⟩ (.int .u8 xC)).drew=w4 at S4 ⊢
     clear eiC piC biC riC ejC pjC bjC rjC
     go_wp2
     go_roundg (n+hi-(2*rt+1))
     case measure=>omega
     case rel=>exact⟨2*rt+1,swp dk (first+rt) (first+(2*rt+1)),by go_num,by omega,Nat.le_refl _,by rw [size_swp];exact hsk,S4,HGO⟩
    | false =>
     have HST:=hid ((sift_stop1 ltInt hi first rt dk hc HK.out hl2).symm.trans HO.out)
     go_wp2_with fail
     obtain⟨iNB,hiNB⟩:∃zq,zq=first+rt:=⟨_,rfl⟩
     have eiB:((first:Int)+(rt:Int)).toNat=iNB:=by omega
     have piB:(0:Int)≤(first:Int)+(rt:Int):=by omega
     have biB:(first:Int)+(rt:Int)<(n:Int):=by omega
     have riB:IntKind.i64.wrap ((first:Int)+(rt:Int))=(first:Int)+(rt:Int):=by rw [IntKind.wrap_i64];omega
     obtain⟨jNB,hjNB⟩:∃zq,zq=first+(2*rt+1):=⟨_,rfl⟩
     have ejB:((first:Int)+(2*(rt:Int)+1)).toNat=jNB:=by omega
     have pjB:(0:Int)≤(first:Int)+(2*(rt:Int)+1):=by omega
     have bjB:(first:Int)+(2*(rt:Int)+1)<(n:Int):=by omega
     have rjB:IntKind.i64.wrap ((first:Int)+(2*(rt:Int)+1))=(first:Int)+(2*(rt:Int)+1):=by rw [IntKind.wrap_i64];omega
     obtain⟨xB,hxB⟩:∃zx,zx=dk[first+rt]! :=⟨_,rfl⟩
     obtain⟨yB,hyB⟩:∃zx,zx=dk[first+(2*rt+1)]! :=⟨_,rfl⟩
     have laB:w2.cell? ⟨blk,off+iNB,none⟩=some (.int .u8 xB):=by rw [hiNB,hxB];exact sb_cell S2.out R (by omega) (first+rt) (by omega)
     have lbB:w2.cell? ⟨blk,off+jNB,none⟩=some (.int .u8 yB):=by rw [hjNB,hyB];exact sb_cell S2.out R (by omega) (first+(2*rt+1)) (by omega)
     have hvB:ltInt xB yB=false:=by rw [hxB,hyB];exact hl2
     have HVB:=hid hvB
     clear hxB hyB hiNB hjNB hvB
     go_wp2_with fail
     go_quiet ((go_at_call 204;exact Calls.quiet_of_same (less_q _ _ _ HVB.out _)))
     have S3:=hid (SW.drewN S2.out nq)
     clear laB lbB HVB S2
     generalize w2.drewN nq=w3 at S3 ⊢
     clear nq eiB piB biB riB ejB pjB bjB rjB
     go_wp2
     refine bodyPost_ret (results_none rfl _ _ _) rfl ?_
     refine⟨rfl,?_⟩
     rw [←HST.out]
     exact S3.out
  ·have hcz:(hi:Int)≤2*(rt:Int)+1:=by omega
   go_wp2
   go_end0
   refine⟨rfl,?_⟩
   have h:=(sift_end _ _ _ _ _ (by omega)).symm.trans HO.out
   rw [←h]
   exact S1.out
theorem size_sift (hi first:Nat):∀(k root:Nat) (d:Array Int),hi-root≤k→(siftDown ltInt hi first root d).size=d.size
 | 0,root,d,h=>by rw [sift_end _ _ _ _ _ (by omega)]
 | k + 1, root, d, h => by
  by_cases hc:2*root+1<hi
  ·cases hk:kid2 ltInt hi first root d with
   | true =>
    cases hl:ltInt d[first+root]! d[first+(2*root+2)]! with
    | true=>rw [sift_go2 _ _ _ _ _ hc hk hl,size_sift hi first k _ _ (by omega),size_swp]
    | false=>rw [sift_stop2 _ _ _ _ _ hc hk hl]
   | false =>
    cases hl:ltInt d[first+root]! d[first+(2*root+1)]! with
    | true=>rw [sift_go1 _ _ _ _ _ hc hk hl,size_sift hi first k _ _ (by omega),size_swp]
    | false=>rw [sift_stop1 _ _ _ _ _ hc hk hl]
  ·rw [sift_end _ _ _ _ _ (by omega)]
theorem heap_any (blk off cap a b n:Nat)(d0 d:Array Int)(w0 w:World)(R:RB w0 blk off d0)(hs0:d0.size=n)(hsd:d.size=n)(S:SB w0 blk off d w)(hab:a<b)(hb:b≤n)(hsz:n<2305843009213693952):
  Calls Tryz.prog 199 #[.slice (some ⟨blk,off,none⟩) n cap,.int .i64 a,.int .i64 b] w fun e w'=>e=.returned (.tuple #[])∧SB w0 blk off (heapSort ltInt d a b) w':=by
 have S0:=hid S
 obtain⟨h,hh⟩:∃h,h=b-a:=⟨_,rfl⟩
 have hbh:(b:Int)-(a:Int)=(h:Int):=by omega
 have h1:(1:Int)≤(h:Int):=by omega
 have h0:(0:Int)≤(h:Int)-1:=by omega
 obtain⟨k0,hk0⟩:∃k,k=(h-1) / 2+1:=⟨_,rfl⟩
 have hk1:((h:Int)-1) / 2=(k0:Int)-1:=by omega
 have hk2:k0≤n:=by omega
 have hah:a+h≤n:=by omega
 have HE:Hid (heapSort ltInt d a b=heapPop ltInt a h (heapBuild ltInt h a k0 d)):=hid (by unfold heapSort;rw [←hh,←hk0])
 rw [HE.out]
 clear S hh hk0 HE
 go_enter Tryz.func199,Tryz.ntmps199
 go_wp2
 simp only [hk1]
 clear hk1
 go_loopg [9] k0 (fun g1 vi wr=>∃(k:Nat) (dk:Array Int),vi=.int .i64 ((k:Int)-1)∧k≤n∧k≤g1∧dk.size=n∧Hid (SB w0 blk off dk wr)∧Hid (heapBuild ltInt h a k dk=heapBuild ltInt h a k0 d))
 case atStart=>exact⟨k0,d,rfl,hk2,Nat.le_refl _,hsd,S0,hid rfl⟩
 case round=>
  clear S0
  obtain⟨k,dk,rfl,hkn,hg1,hsk,S1,HO⟩:=hrel
  by_cases hk:0<k
  ·obtain⟨q,rfl⟩:∃q,k=q+1:=⟨k-1,by omega⟩
   have hq:((q+1:Nat):Int)-1=(q:Int):=by omega
   rw [hq]
   have hqz:(0:Int)≤(q:Int):=by omega
   clear hq
   go_wp2_with (go_at_call 207;(refine(sift_any blk off cap q h a n d0 dk w0 _ R hs0 hsk S1.out hah (by omega) hsz).mono ?_);rintro e w2 ⟨rfl,hS2⟩;have S2:=hid hS2;clear hS2)
   go_roundg q
   case measure=>omega
   case rel=>exact⟨q,siftDown ltInt h a q dk,by go_num,by omega,Nat.le_refl _,(size_sift _ _ _ _ _ (Nat.le_refl _)).trans hsk,S2,hid (by rw [←HO.out];rfl)⟩
  ·obtain rfl:k=0:=by omega
   have hqz:¬(0:Int)≤((0:Nat):Int)-1:=by omega
   have HO2:Hid (dk=heapBuild ltInt h a k0 d):=HO
   clear HO
   go_wp2
   go_loopg [10] h (fun g1 vi wr=>∃(k:Nat) (dj:Array Int),vi=.int .i64 ((k:Int)-1)∧k≤h∧k≤g1∧dj.size=n∧Hid (SB w0 blk off dj wr)∧Hid (heapPop ltInt a k dj=heapPop ltInt a h dk))
   case atStart=>exact⟨h,dk,rfl,Nat.le_refl _,Nat.le_refl _,hsk,S1,hid rfl⟩
   case round=>
    clear S1
    obtain⟨k,dj,rfl,hkn,hg1,hsj,S1,HO⟩:=hrel
    by_cases hk:0<k
    ·obtain⟨q,rfl⟩:∃q,k=q+1:=⟨k-1,by omega⟩
     have hq:((q+1:Nat):Int)-1=(q:Int):=by omega
     rw [hq]
     have hqz2:(0:Int)≤(q:Int):=by omega
     clear hq
     go_wp2_with fail
     obtain⟨iNC,hiNC⟩:∃zq,zq=a:=⟨_,rfl⟩
     have eiC:((a:Int)).toNat=iNC:=by omega
     have piC:(0:Int)≤(a:Int):=by omega
     have biC:(a:Int)<(n:Int):=by omega
     have riC:IntKind.i64.wrap ((a:Int))=(a:Int):=by rw [IntKind.wrap_i64];omega
     obtain⟨jNC,hjNC⟩:∃zq,zq=a+q:=⟨_,rfl⟩
     have ejC:((a:Int)+(q:Int)).toNat=jNC:=by omega
     have pjC:(0:Int)≤(a:Int)+(q:Int):=by omega
     have bjC:(a:Int)+(q:Int)<(n:Int):=by omega
     have rjC:IntKind.i64.wrap ((a:Int)+(q:Int))=(a:Int)+(q:Int):=by rw [IntKind.wrap_i64];omega
     obtain⟨xC,hxC⟩:∃zx,zx=dj[a]! :=⟨_,rfl⟩
     obtain⟨yC,hyC⟩:∃zx,zx=dj[a+q]! :=⟨_,rfl⟩
     have S3:Hid (SB w0 blk off (swp dj (a) (a+q)) ((wr.setCell ⟨blk,off+iNC,none⟩ (.int .u8 yC)).setCell ⟨blk,off+jNC,none⟩ (.int .u8 xC)).drew):=hid (by rw [hiNC,hjNC,hxC,hyC];exact sb_swap S1.out R (a) (a+q) (by omega) (by omega))
     have caC:wr.cell? ⟨blk,off+iNC,none⟩=some (.int .u8 xC):=by rw [hiNC,hxC];exact sb_cell S1.out R (by omega) (a) (by omega)
     have cbC:wr.cell? ⟨blk,off+jNC,none⟩=some (.int .u8 yC):=by rw [hjNC,hyC];exact sb_cell S1.out R (by omega) (a+q) (by omega)
     have faC:wr.frozen? ⟨blk,off+iNC,none⟩=false:=by rw [hiNC];exact SW.f1 S1.out R (by omega) (a) (by omega)
     have fbC:wr.frozen? ⟨blk,off+jNC,none⟩=false:=by rw [hjNC];exact SW.f1 S1.out R (by omega) (a+q) (by omega)
     obtain⟨uC,ccC⟩:∃u,(wr.setCell ⟨blk,off+iNC,none⟩ (.int .u8 yC)).cell? ⟨blk,off+jNC,none⟩=some u:=by rw [hiNC,hjNC];exact SW.c2 S1.out R (by omega) (a) (a+q) (by omega) (by omega) (.int .u8 yC)
     clear S1 hxC hyC hiNC hjNC
     go_wp2_with fail
     go_region
     clear caC cbC ccC faC fbC
     generalize ((wr.setCell ⟨blk,off+iNC,none⟩ (.int .u8 yC)).setCell ⟨blk,off+jNC,none⟩ (.int .u8 xC)).drew=w3 at S3 ⊢
     clear eiC piC biC riC ejC pjC bjC rjC
     go_wp2_with (go_at_call 207;(refine(sift_any blk off cap 0 q a n d0 (swp dj a (a+q)) w0 _ R hs0 (by rw [size_swp];exact hsj) S3.out (by omega) (by omega) hsz).mono ?_);rintro e w4 ⟨rfl,hS4⟩;have S4:=hid hS4;clear hS4)
     go_roundg q
     case measure=>omega
     case rel=>exact⟨q,siftDown ltInt q a 0 (swp dj a (a+q)),by go_num,by omega,Nat.le_refl _,(size_sift _ _ _ _ _ (Nat.le_refl _)).trans (by rw [size_swp];exact hsj),S4,hid (by rw [←HO.out];rfl)⟩
    ·obtain rfl:k=0:=by omega
     have hqz2:¬(0:Int)≤((0:Nat):Int)-1:=by omega
     go_wp2
     go_end0
     refine⟨rfl,?_⟩
     rw [←HO2.out,←HO.out]
     exact S1.out
end
section
open Go.RowKit Go.Sort

def Ct (w0:World)(blk off:Nat)(d:Array Int)(c s:Nat)(W:World):Prop:=∃t:Nat,t≤s∧Cnt1 encB w0 blk off d c t W
theorem Ct.sb {w0 W:World}{blk off:Nat}{d:Array Int}{c s:Nat}(h:Ct w0 blk off d c s W):SB w0 blk off d W:=by obtain⟨t,_,h⟩:=h;exact h.1
theorem Cnt1.drewN {w0 W:World}{blk off:Nat}{d:Array Int}{c s:Nat}(h:Cnt1 encB w0 blk off d c s W)(q:Nat):Cnt1 encB w0 blk off d c s (W.drewN q):=⟨SW.drewN h.1 q,h.2.1,h.2.2.1,h.2.2.2.1,h.2.2.2.2⟩
def Ord2 (w0:World)(blk off:Nat)(d:Array Int)(c s a b:Nat)(e:Ending)(w':World):Prop:=∃x y:Nat,((x=a∧y=b)∨(x=b∧y=a))∧e=.returned (.tuple #[.int .i64 x,.int .i64 y])∧Ct w0 blk off d c (s+1) w'
theorem order2_any (blk off cap a b n c s:Nat)(d0 d:Array Int)(w0 w:World)(R:RB w0 blk off d0)(hs0:d0.size=n)(hsd:d.size=n)(S:Ct w0 blk off d c s w)(ha:a<n)(hb:b<n)(hs:s≤1000)(hsz:n<2305843009213693952):
  Calls Tryz.prog 211 #[.slice (some ⟨blk,off,none⟩) n cap,.int .i64 a,.int .i64 b,.pointer (some ⟨c,0,none⟩)] w (Ord2 w0 blk off d c s a b):=by
 obtain⟨t,ht,hC⟩:=S
 have S1:=hid hC.1
 have HC:=hid hC
 have ht1:(t:Int)≤1000:=by omega
 have ht2:(0:Int)≤(t:Int):=by omega
 clear hC
 cases hlv:ltInt d[b]! d[a]! with
 | true =>
  go_enter Tryz.func211,Tryz.ntmps211
  go_wp2_with fail
  obtain⟨x,hx⟩:∃x,x=d[b]! :=⟨_,rfl⟩
  obtain⟨y,hy⟩:∃x,x=d[a]! :=⟨_,rfl⟩
  have la:w.cell? ⟨blk,off+b,none⟩=some (.int .u8 x):=by rw [hx];exact sb_cell S1.out R (by omega) b (by omega)
  have lb:w.cell? ⟨blk,off+a,none⟩=some (.int .u8 y):=by rw [hy];exact sb_cell S1.out R (by omega) a (by omega)
  have hz1:(b:Int)<(n:Int):=by omega
  have hz2:(a:Int)<(n:Int):=by omega
  have hv:ltInt x y=true:=by rw [hx,hy];exact hlv
  have HV:=hid hv
  clear hx hy hv hlv
  go_quiet ((go_at_call 204;exact Calls.quiet_of_same (less_q _ _ _ HV.out _)))
  have HC2:=hid (Cnt1.drewN HC.out nq)
  generalize w.drewN nq=w2 at HC2 ⊢
  clear la lb
  have c0:=HC2.out.2.1
  have f0:=HC2.out.2.2.1
  have hcb:=HC2.out.2.2.2.2
  go_wp2
  refine bodyPost_ret (v:=.tuple #[.int .i64 (b:Int),.int .i64 (a:Int)]) (by simp [results,Tryz.results211,go_sem]) rfl ?_
  exact⟨b,a,.inr ⟨rfl,rfl⟩,rfl,t+1,by omega,HC2.out.bump (t+1)⟩
 | false =>
  go_enter Tryz.func211,Tryz.ntmps211
  go_wp2_with fail
  obtain⟨x,hx⟩:∃x,x=d[b]! :=⟨_,rfl⟩
  obtain⟨y,hy⟩:∃x,x=d[a]! :=⟨_,rfl⟩
  have la:w.cell? ⟨blk,off+b,none⟩=some (.int .u8 x):=by rw [hx];exact sb_cell S1.out R (by omega) b (by omega)
  have lb:w.cell? ⟨blk,off+a,none⟩=some (.int .u8 y):=by rw [hy];exact sb_cell S1.out R (by omega) a (by omega)
  have hz1:(b:Int)<(n:Int):=by omega
  have hz2:(a:Int)<(n:Int):=by omega
  have hv:ltInt x y=false:=by rw [hx,hy];exact hlv
  have HV:=hid hv
  clear hx hy hv hlv
  go_quiet ((go_at_call 204;exact Calls.quiet_of_same (less_q _ _ _ HV.out _)))
  have HC2:=hid (Cnt1.drewN HC.out nq)
  generalize w.drewN nq=w2 at HC2 ⊢
  clear la lb
  go_wp2
  refine bodyPost_ret (v:=.tuple #[.int .i64 (a:Int),.int .i64 (b:Int)]) (by simp [results,Tryz.results211,go_sem]) rfl ?_
  exact⟨a,b,.inl ⟨rfl,rfl⟩,rfl,t,by omega,HC2.out⟩
def Med (w0:World)(blk off:Nat)(d:Array Int)(c s lo hi:Nat)(e:Ending)(w':World):Prop:=∃x:Nat,(lo≤x∧x<hi)∧e=.returned (.int .i64 x)∧Ct w0 blk off d c s w'
theorem median_any (blk off cap x y z n c s lo hi:Nat)(d0 d:Array Int)(w0 w:World)(R:RB w0 blk off d0)(hs0:d0.size=n)(hsd:d.size=n)(S:Ct w0 blk off d c s w)(hx:lo≤x∧x<hi)(hy:lo≤y∧y<hi)(hz:lo≤z∧z<hi)(hh:hi≤n)(hs:s≤100)(hsz:n<2305843009213693952):
  Calls Tryz.prog 209 #[.slice (some ⟨blk,off,none⟩) n cap,.int .i64 x,.int .i64 y,.int .i64 z,.pointer (some ⟨c,0,none⟩)] w (Med w0 blk off d c (s+3) lo hi):=by
 have HS:=hid S
 clear S
 go_enter Tryz.func209,Tryz.ntmps209
 go_wp2_with fail
 refine(order2_any blk off cap x y n c s d0 d w0 _ R hs0 hsd HS.out (by omega) (by omega) (by omega) hsz).mono ?_
 rintro e w1 ⟨x1,y1,h1,rfl,HS1⟩
 have HS1:=hid HS1
 have hx1:lo≤x1∧x1<hi:=by omega
 have hy1:lo≤y1∧y1<hi:=by omega
 clear h1 HS
 go_wp2_with fail
 refine(order2_any blk off cap y1 z n c (s+1) d0 d w0 _ R hs0 hsd HS1.out (by omega) (by omega) (by omega) hsz).mono ?_
 rintro e w2 ⟨x2,y2,h2,rfl,HS2⟩
 have HS2:=hid HS2
 have hx2:lo≤x2∧x2<hi:=by omega
 clear h2 HS1
 go_wp2_with fail
 refine(order2_any blk off cap x1 x2 n c (s+2) d0 d w0 _ R hs0 hsd HS2.out (by omega) (by omega) (by omega) hsz).mono ?_
 rintro e w3 ⟨x3,y3,h3,rfl,HS3⟩
 have HS3:=hid HS3
 have hy3:lo≤y3∧y3<hi:=by omega
 clear h3 HS2
 go_wp2
 go_ret
 exact⟨y3,hy3,rfl,HS3.out⟩
theorem medAdj_any (blk off cap x n c s lo hi:Nat)(d0 d:Array Int)(w0 w:World)(R:RB w0 blk off d0)(hs0:d0.size=n)(hsd:d.size=n)(S:Ct w0 blk off d c s w)(hx:lo+1≤x∧x+1<hi)(hh:hi≤n)(hs:s≤100)(hsz:n<2305843009213693952):
  Calls Tryz.prog 208 #[.slice (some ⟨blk,off,none⟩) n cap,.int .i64 x,.pointer (some ⟨c,0,none⟩)] w (Med w0 blk off d c (s+3) lo hi):=by
 obtain⟨q,rfl⟩:∃q,x=q+1:=⟨x-1,by omega⟩
 have hM:∀W,Ct w0 blk off d c s W→Calls Tryz.prog 209 #[.slice (some ⟨blk,off,none⟩) n cap,.int .i64 (q:Int),.int .i64 ((q:Int)+1),.int .i64 ((q:Int)+1+1),.pointer (some ⟨c,0,none⟩)] W (Med w0 blk off d c (s+3) lo hi):=fun W h=>
  median_any blk off cap q (q+1) (q+1+1) n c s lo hi d0 d w0 W R hs0 hsd h (by omega) (by omega) (by omega) hh hs hsz
 have HM:=hid hM
 have HS:=hid S
 have hq9:(q:Int)+1+1≤2305843009213693952:=by omega
 clear hM S
 go_enter Tryz.func208,Tryz.ntmps208
 go_wp2_with (go_at_call 209;(refine(HM.out _ HS.out).mono ?_);rintro e w1 ⟨x1,hx1,rfl,HS1⟩;have HS1:=hid HS1)
 go_ret
 exact⟨x1,hx1,rfl,HS1.out⟩
end
section
open Go.RowKit Go.Sort

def Piv (w0:World)(blk off:Nat)(d:Array Int)(a b:Nat)(e:Ending)(w':World):Prop:=∃x h:Nat,(a≤x∧x<b)∧h≤2∧e=.returned (.tuple #[.int .i64 x,.int .i64 h])∧SB w0 blk off d w'
theorem Ct.start {w0 W:World}{blk off:Nat}{d:Array Int}(h:SB w0 blk off d W):Ct w0 blk off d W.heap.size 0 (W.alloc (.cells #[.int .i64 0] 3)):=⟨0,Nat.le_refl _,Cnt1.start h _⟩
theorem pivot_any (blk off cap a b n:Nat)(d0 d:Array Int)(w0 w:World)(R:RB w0 blk off d0)(hs0:d0.size=n)(hsd:d.size=n)(S:SB w0 blk off d w)(hab:a+12<b)(hb:b≤n)(hsz:n<2305843009213693952):
  Calls Tryz.prog 201 #[.slice (some ⟨blk,off,none⟩) n cap,.int .i64 a,.int .i64 b] w (Piv w0 blk off d a b):=by
 have HS:=hid (Ct.start S)
 obtain⟨l,hl⟩:∃l,l=b-a:=⟨_,rfl⟩
 have hbl:(b:Int)-(a:Int)=(l:Int):=by omega
 obtain⟨q,hq⟩:∃q,q=l / 4:=⟨_,rfl⟩
 have hlq:(l:Int) / 4=(q:Int):=by omega
 obtain⟨i,hi⟩:∃i,i=a+q:=⟨_,rfl⟩
 obtain⟨j,hj⟩:∃j,j=a+q*2:=⟨_,rfl⟩
 obtain⟨k,hk⟩:∃k,k=a+q*3:=⟨_,rfl⟩
 have hi1:(a:Int)+(q:Int)=(i:Int):=by omega
 have hj1:(a:Int)+(q:Int)*2=(j:Int):=by omega
 have hk1:(a:Int)+(q:Int)*3=(k:Int):=by omega
 have hiR:a≤i∧i<b:=by omega
 have hjR:a≤j∧j<b:=by omega
 have hkR:a≤k∧k<b:=by omega
 have hl8:(8:Int)≤(l:Int):=by omega
 have hl9:(l:Int)≤2305843009213693952:=by omega
 have hq9:(q:Int)≤2305843009213693952:=by omega
 have hq0:(0:Int)≤(q:Int):=by omega
 have ha0:(0:Int)≤(a:Int):=by omega
 have ha9:(a:Int)≤2305843009213693952:=by omega
 by_cases h50:50≤l
 ·have h50z:(50:Int)≤(l:Int):=by omega
  have hi2:a+1≤i∧i+1<b:=by omega
  have hj2:a+1≤j∧j+1<b:=by omega
  have hk2:a+1≤k∧k+1<b:=by omega
  clear S hl hq hi hj hk h50
  go_enter Tryz.func201,Tryz.ntmps201
  go_wp2_with fail
  refine(medAdj_any blk off cap i n w.heap.size 0 a b d0 d w0 _ R hs0 hsd HS.out hi2 hb (by omega) hsz).mono ?_
  rintro e w1 ⟨x1,hx1,rfl,HS1⟩
  have HS1:=hid HS1
  clear HS
  go_wp2_with fail
  refine(medAdj_any blk off cap j n w.heap.size 3 a b d0 d w0 _ R hs0 hsd HS1.out hj2 hb (by omega) hsz).mono ?_
  rintro e w2 ⟨x2,hx2,rfl,HS2⟩
  have HS2:=hid HS2
  clear HS1
  go_wp2_with fail
  refine(medAdj_any blk off cap k n w.heap.size 6 a b d0 d w0 _ R hs0 hsd HS2.out hk2 hb (by omega) hsz).mono ?_
  rintro e w3 ⟨x3,hx3,rfl,HS3⟩
  have HS3:=hid HS3
  clear HS2
  go_wp2_with fail
  refine(median_any blk off cap x1 x2 x3 n w.heap.size 9 a b d0 d w0 _ R hs0 hsd HS3.out hx1 hx2 hx3 hb (by omega) hsz).mono ?_
  rintro e w4 ⟨x4,hx4,rfl,HS4⟩
  have HSB:=hid (Ct.sb HS4)
  obtain⟨t,ht,hC⟩:=HS4
  have c0:=hC.2.1
  have HX4:=hid hx4
  clear hC HS3 hx1 hx2 hx3 hx4 hi1 hj1 hk1 hbl hlq
  by_cases h0:t=0
  ·have hz:((t:Int)==0)=true:=by rw [h0];rfl
   have hz2:((t:Int)==12)=false:=by rw [h0];rfl
   clear h0
   go_wp2
   refine bodyPost_ret (v:=.tuple #[.int .i64 (x4:Int),.int .i64 1]) (by simp [results,Tryz.results201,go_sem]) rfl ?_
   exact⟨x4,1,HX4.out,by omega,rfl,HSB.out⟩
  ·have hz:((t:Int)==0)=false:=by rw [beq_eq_false_iff_ne];omega
   by_cases h12:t=12
   ·have hz2:((t:Int)==12)=true:=by rw [h12];rfl
    clear h0 h12
    go_wp2
    refine bodyPost_ret (v:=.tuple #[.int .i64 (x4:Int),.int .i64 2]) (by simp [results,Tryz.results201,go_sem]) rfl ?_
    exact⟨x4,2,HX4.out,by omega,rfl,HSB.out⟩
   ·have hz2:((t:Int)==12)=false:=by rw [beq_eq_false_iff_ne];omega
    clear h0 h12
    go_wp2
    refine bodyPost_ret (v:=.tuple #[.int .i64 (x4:Int),.int .i64 0]) (by simp [results,Tryz.results201,go_sem]) rfl ?_
    exact⟨x4,0,HX4.out,by omega,rfl,HSB.out⟩
 ·have h50z:¬(50:Int)≤(l:Int):=by omega
  clear S hl hq hi hj hk h50
  go_enter Tryz.func201,Tryz.ntmps201
  go_wp2_with fail
  refine(median_any blk off cap i j k n w.heap.size 0 a b d0 d w0 _ R hs0 hsd HS.out hiR hjR hkR hb (by omega) hsz).mono ?_
  rintro e w4 ⟨x4,hx4,rfl,HS4⟩
  have HSB:=hid (Ct.sb HS4)
  obtain⟨t,ht,hC⟩:=HS4
  have c0:=hC.2.1
  have HX4:=hid hx4
  clear hC HS hx4 hi1 hj1 hk1 hbl hlq
  by_cases h0:t=0
  ·have hz:((t:Int)==0)=true:=by rw [h0];rfl
   have hz2:((t:Int)==12)=false:=by rw [h0];rfl
   clear h0
   go_wp2
   refine bodyPost_ret (v:=.tuple #[.int .i64 (x4:Int),.int .i64 1]) (by simp [results,Tryz.results201,go_sem]) rfl ?_
   exact⟨x4,1,HX4.out,by omega,rfl,HSB.out⟩
  ·have hz:((t:Int)==0)=false:=by rw [beq_eq_false_iff_ne];omega
   by_cases h12:t=12
   ·have hz2:((t:Int)==12)=true:=by rw [h12];rfl
    clear h0 h12
    go_wp2
    refine bodyPost_ret (v:=.tuple #[.int .i64 (x4:Int),.int .i64 2]) (by simp [results,Tryz.results201,go_sem]) rfl ?_
    exact⟨x4,2,HX4.out,by omega,rfl,HSB.out⟩
   ·have hz2:((t:Int)==12)=false:=by rw [beq_eq_false_iff_ne];omega
    clear h0 h12
    go_wp2
    refine bodyPost_ret (v:=.tuple #[.int .i64 (x4:Int),.int .i64 0]) (by simp [results,Tryz.results201,go_sem]) rfl ?_
    exact⟨x4,0,HX4.out,by omega,rfl,HSB.out⟩
end
end Go.Proofs.YtecladbckadijaaGreatDoor
