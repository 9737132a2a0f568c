/- MERGED for a claim. -/
import Derived.Test.YtecladbckadijaaGreatDoorBsE
import Derived.Test.YtecladbckadijaaGreatDoorShelf
import Derived.Deep.CutBlock
import Derived.Deep.DeepCutAuto
set_option linter.unusedVariables false
set_option linter.unusedSimpArgs false
set_option maxRecDepth 100000
set_option maxHeartbeats 16000000
namespace Go.Proofs.YtecladbckadijaaGreatDoor
open Go.Lib (hid)
section
open Go.RowKit Go.Sort

def Prm (w0:World)(blk off:Nat)(d:Array Int)(a b:Nat)(e:Ending)(w':World):Prop:=∃d':Array Int,e=.returned (.tuple #[])∧PermIn a b d d'∧SB w0 blk off d' w'
theorem npo_any (L M:Nat)(hL:L<4611686018427387904)(hM:M=1 <<< bitsLen L)(w:World):Calls Tryz.prog 171 #[.int .i64 L] w fun e w'=>e=.returned (.int .u64 (M:Int))∧w=w':=
 (AnyF.nextPowerOfTwo Tryz.npo2 L hL w).mono fun _ _ ⟨he,hw⟩=>⟨by rw [he,hM],hw.symm⟩
theorem xor_any (c X Y:Nat)(hX:X<18446744073709551616)(hY:Y=xorNextN X)(w:World)(hc:w.cell? ⟨c,0,none⟩=some (.int .u64 X))(hf:w.frozen? ⟨c,0,none⟩=false):
  Calls Tryz.prog 172 #[.pointer (some ⟨c,0,none⟩)] w fun e w'=>e=.returned (.int .u64 (Y:Int))∧w'=(w.setCell ⟨c,0,none⟩ (.int .u64 (Y:Int))).drewN 3:=by
 rw [hY];exact AnyF.xorshift_Next Tryz.xorNext c 0 X hX w hc hf
theorem brk_any (blk off cap a b n:Nat)(d0 d:Array Int)(w0 w:World)(R:RB w0 blk off d0)(hs0:d0.size=n)(hsd:d.size=n)(S:SB w0 blk off d w)(hab:a+12<b)(hb:b≤n)(hsz:n<2305843009213693952):
  Calls Tryz.prog 200 #[.slice (some ⟨blk,off,none⟩) n cap,.int .i64 a,.int .i64 b] w (Prm w0 blk off d a b):=by
 obtain⟨L,hL⟩:∃L,L=b-a:=⟨_,rfl⟩
 have hbl:(b:Int)-(a:Int)=(L:Int):=by omega
 obtain⟨q,hq⟩:∃q,q=L / 4:=⟨_,rfl⟩
 have hlq:(L:Int) / 4=(q:Int):=by omega
 obtain⟨u,hu⟩:∃u,u=a+q*2-1:=⟨_,rfl⟩
 have hu1:(a:Int)+(q:Int)*2=(u:Int)+1:=by omega
 have hua:a≤u∧u+2<b:=by omega
 obtain⟨M,hM⟩:∃M:Nat,M=1 <<< bitsLen L:=⟨_,rfl⟩
 have hM1:1≤M:=by rw [hM,Nat.one_shiftLeft];exact Nat.two_pow_pos _
 have hM2:M≤2*L:=by rw [hM,Nat.one_shiftLeft];exact two_pow_bitsLen_le (by omega)
 have HM:=hid hM
 have hL8:(8:Int)≤(L:Int):=by omega
 have hL9:(L:Int)≤2305843009213693952:=by omega
 have hLn:L<4611686018427387904:=by omega
 have hab2:a+L=b:=by omega
 have hq0:(0:Int)≤(q:Int):=by omega
 have hq9:(q:Int)≤2305843009213693952:=by omega
 have ha0:(0:Int)≤(a:Int):=by omega
 have ha9:(a:Int)≤2305843009213693952:=by omega
 have hu9:(u:Int)≤2305843009213693952:=by omega
 have hne:w.heap.size≠blk:=by have:=SW.lt S R.hblk;omega
 have hle0:w0.heap.size≤w.heap.size:=SW.le S
 have S0:=hid (SW.alloc S (.cells #[.int .u64 (L:Int)] 200))
 clear S hL hq hu hM
 go_enter Tryz.func200,Tryz.ntmps200
 go_wp2_with (go_at_call 171;(refine(npo_any L M hLn HM.out _).mono ?_);rintro e w1 ⟨rfl,rfl⟩)
 go_loopg [9] 3 (fun g1 vi wr=>∃(x X:Nat) (dk:Array Int),vi=.int .i64 x∧u≤x∧x≤u+3∧u+3-x≤g1∧dk.size=n∧X<18446744073709551616∧Hid (SB w0 blk off dk wr)∧Hid (PermIn a b d dk)∧wr.cell? ⟨w.heap.size,0,none⟩=some (.int .u64 (X:Int))∧wr.frozen? ⟨w.heap.size,0,none⟩=false)
 case atStart=>exact⟨u,L,d,rfl,Nat.le_refl _,by omega,by omega,hsd,by omega,S0,hid (permIn_refl _ _ _),by simp,by simp⟩
 case round=>
  clear S0
  obtain⟨x,X,dk,rfl,hxu,hx3,hg1,hsk,hX,S1,HP,cR,fR⟩:=hrel
  by_cases hlt:x<u+3
  ·have hle:(x:Int)≤(u:Int)+1+1:=by omega
   obtain⟨Y,hY⟩:∃Y,Y=xorNextN X:=⟨_,rfl⟩
   have lY:Y<18446744073709551616:=by rw [hY];exact xorNextN_lt X hX
   have HY:=hid hY
   obtain⟨O,hO⟩:∃O:Nat,O=Y &&& (M-1):=⟨_,rfl⟩
   have lO:O≤M-1:=by rw [hO];exact Nat.and_le_right
   have eAnd:bits .and .u64 (Y:Int) ((M:Int)-1)=(O:Int):=by
    rw [show((M:Int)-1)=((M-1:Nat):Int)by omega,bits_and_u64_nat _ _ lY (by omega),hO]
   clear hY hO
   have S2:=hid (SW.drewN (SW.setCell_new S1.out w.heap.size 0 (.int .u64 (Y:Int)) hle0) 3)
   have cR2:((wr.setCell ⟨w.heap.size,0,none⟩ (.int .u64 (Y:Int))).drewN 3).cell? ⟨w.heap.size,0,none⟩=some (.int .u64 (Y:Int)):=by
    rw [World.cell?_drewN];exact World.cell?_setCell_same _ _ _ cR
   have fR2:((wr.setCell ⟨w.heap.size,0,none⟩ (.int .u64 (Y:Int))).drewN 3).frozen? ⟨w.heap.size,0,none⟩=false:=by
    rw [World.frozen?_drewN];simpa using fR
   have HN:Hid (Calls Tryz.prog 172 #[.pointer (some ⟨w.heap.size,0,none⟩)] wr fun e w'=>e=.returned (.int .u64 (Y:Int))∧w'=(wr.setCell ⟨w.heap.size,0,none⟩ (.int .u64 (Y:Int))).drewN 3):=hid (xor_any w.heap.size X Y hX HY.out wr cR fR)
   generalize (wr.setCell ⟨w.heap.size,0,none⟩ (.int .u64 (Y:Int))).drewN 3=w2 at S2 cR2 fR2 HN
   clear cR fR S1
   by_cases hLO:L≤O
   ·have hLOz:(L:Int)≤(O:Int):=by omega
    go_wp2_with (go_at_call 172;refine HN.out.mono ?_;rintro e w' ⟨rfl,hw'⟩;obtain rfl:w2=w':=hw'.symm)
    obtain⟨iNC,hiNC⟩:∃zq,zq=x:=⟨_,rfl⟩
    have eiC:((x:Int)).toNat=iNC:=by omega
    have piC:(0:Int)≤(x:Int):=by omega
    have biC:(x:Int)<(n:Int):=by omega
    have riC:IntKind.i64.wrap ((x:Int))=(x:Int):=by rw [IntKind.wrap_i64];omega
    obtain⟨jNC,hjNC⟩:∃zq,zq=a+(O-L):=⟨_,rfl⟩
    have ejC:((a:Int)+((O:Int)-(L:Int))).toNat=jNC:=by omega
    have pjC:(0:Int)≤(a:Int)+((O:Int)-(L:Int)):=by omega
    have bjC:(a:Int)+((O:Int)-(L:Int))<(n:Int):=by omega
    have rjC:IntKind.i64.wrap ((a:Int)+((O:Int)-(L:Int)))=(a:Int)+((O:Int)-(L:Int)):=by rw [IntKind.wrap_i64];omega
    obtain⟨xC,hxC⟩:∃zx,zx=dk[x]! :=⟨_,rfl⟩
    obtain⟨yC,hyC⟩:∃zx,zx=dk[a+(O-L)]! :=⟨_,rfl⟩
    have S3:Hid (SB w0 blk off (swp dk (x) (a+(O-L))) ((w2.setCell ⟨blk,off+iNC,none⟩ (.int .u8 yC)).setCell ⟨blk,off+jNC,none⟩ (.int .u8 xC)).drew):=hid (by rw [hiNC,hjNC,hxC,hyC];exact sb_swap S2.out R (x) (a+(O-L)) (by omega) (by omega))
    have caC:w2.cell? ⟨blk,off+iNC,none⟩=some (.int .u8 xC):=by rw [hiNC,hxC];exact sb_cell S2.out R (by omega) (x) (by omega)
    have cbC:w2.cell? ⟨blk,off+jNC,none⟩=some (.int .u8 yC):=by rw [hjNC,hyC];exact sb_cell S2.out R (by omega) (a+(O-L)) (by omega)
    have faC:w2.frozen? ⟨blk,off+iNC,none⟩=false:=by rw [hiNC];exact SW.f1 S2.out R (by omega) (x) (by omega)
    have fbC:w2.frozen? ⟨blk,off+jNC,none⟩=false:=by rw [hjNC];exact SW.f1 S2.out R (by omega) (a+(O-L)) (by omega)
    obtain⟨uC,ccC⟩:∃u,(w2.setCell ⟨blk,off+iNC,none⟩ (.int .u8 yC)).cell? ⟨blk,off+jNC,none⟩=some u:=by rw [hiNC,hjNC];exact SW.c2 S2.out R (by omega) (x) (a+(O-L)) (by omega) (by omega) (.int .u8 yC)
    clear S2 hxC hyC hiNC hjNC
    go_wp2_with fail
    go_region
    clear caC cbC ccC faC fbC
    have k1:=box_kept_swap1 (W:=w2) (blk:=blk) hne cR2 fR2 (off+iNC) (off+jNC) (.int .u8 yC) (.int .u8 xC)
    generalize ((w2.setCell ⟨blk,off+iNC,none⟩ (.int .u8 yC)).setCell ⟨blk,off+jNC,none⟩ (.int .u8 xC)).drew=w3 at S3 k1 ⊢
    clear eiC piC biC riC ejC pjC bjC rjC

    go_wp2
    go_roundg (u+3-(x+1))
    case measure=>omega
    case rel=>exact⟨x+1,Y,swp dk x (a+(O-L)),by go_num,by omega,by omega,Nat.le_refl _,by rw [size_swp];exact hsk,lY,S3,hid (permIn_trans _ _ _ a b HP.out (swp_permIn dk a b x (a+(O-L)) (by omega) (by omega) (by omega) (by omega) (by omega))),k1.1,k1.2⟩
   ·have hLOz:¬(L:Int)≤(O:Int):=by omega
    go_wp2_with (go_at_call 172;refine HN.out.mono ?_;rintro e w' ⟨rfl,hw'⟩;obtain rfl:w2=w':=hw'.symm)
    obtain⟨iNC,hiNC⟩:∃zq,zq=x:=⟨_,rfl⟩
    have eiC:((x:Int)).toNat=iNC:=by omega
    have piC:(0:Int)≤(x:Int):=by omega
    have biC:(x:Int)<(n:Int):=by omega
    have riC:IntKind.i64.wrap ((x:Int))=(x:Int):=by rw [IntKind.wrap_i64];omega
    obtain⟨jNC,hjNC⟩:∃zq,zq=a+O:=⟨_,rfl⟩
    have ejC:((a:Int)+(O:Int)).toNat=jNC:=by omega
    have pjC:(0:Int)≤(a:Int)+(O:Int):=by omega
    have bjC:(a:Int)+(O:Int)<(n:Int):=by omega
    have rjC:IntKind.i64.wrap ((a:Int)+(O:Int))=(a:Int)+(O:Int):=by rw [IntKind.wrap_i64];omega
    obtain⟨xC,hxC⟩:∃zx,zx=dk[x]! :=⟨_,rfl⟩
    obtain⟨yC,hyC⟩:∃zx,zx=dk[a+O]! :=⟨_,rfl⟩
    have S3:Hid (SB w0 blk off (swp dk (x) (a+O)) ((w2.setCell ⟨blk,off+iNC,none⟩ (.int .u8 yC)).setCell ⟨blk,off+jNC,none⟩ (.int .u8 xC)).drew):=hid (by rw [hiNC,hjNC,hxC,hyC];exact sb_swap S2.out R (x) (a+O) (by omega) (by omega))
    have caC:w2.cell? ⟨blk,off+iNC,none⟩=some (.int .u8 xC):=by rw [hiNC,hxC];exact sb_cell S2.out R (by omega) (x) (by omega)
    have cbC:w2.cell? ⟨blk,off+jNC,none⟩=some (.int .u8 yC):=by rw [hjNC,hyC];exact sb_cell S2.out R (by omega) (a+O) (by omega)
    have faC:w2.frozen? ⟨blk,off+iNC,none⟩=false:=by rw [hiNC];exact SW.f1 S2.out R (by omega) (x) (by omega)
    have fbC:w2.frozen? ⟨blk,off+jNC,none⟩=false:=by rw [hjNC];exact SW.f1 S2.out R (by omega) (a+O) (by omega)
    obtain⟨uC,ccC⟩:∃u,(w2.setCell ⟨blk,off+iNC,none⟩ (.int .u8 yC)).cell? ⟨blk,off+jNC,none⟩=some u:=by rw [hiNC,hjNC];exact SW.c2 S2.out R (by omega) (x) (a+O) (by omega) (by omega) (.int .u8 yC)
    clear S2 hxC hyC hiNC hjNC
    go_wp2_with fail
    go_region
    clear caC cbC ccC faC fbC
    have k1:=box_kept_swap1 (W:=w2) (blk:=blk) hne cR2 fR2 (off+iNC) (off+jNC) (.int .u8 yC) (.int .u8 xC)
    generalize ((w2.setCell ⟨blk,off+iNC,none⟩ (.int .u8 yC)).setCell ⟨blk,off+jNC,none⟩ (.int .u8 xC)).drew=w3 at S3 k1 ⊢
    clear eiC piC biC riC ejC pjC bjC rjC

    go_wp2
    go_roundg (u+3-(x+1))
    case measure=>omega
    case rel=>exact⟨x+1,Y,swp dk x (a+O),by go_num,by omega,by omega,Nat.le_refl _,by rw [size_swp];exact hsk,lY,S3,hid (permIn_trans _ _ _ a b HP.out (swp_permIn dk a b x (a+O) (by omega) (by omega) (by omega) (by omega) (by omega))),k1.1,k1.2⟩
  ·have hle:¬(x:Int)≤(u:Int)+1+1:=by omega
   go_wp2
   go_end0
   exact⟨dk,rfl,HP.out,S1.out⟩
end
section
open Go.RowKit Go.Sort

section
variable {α:Type} [Inhabited α]
theorem up_go {p:α→Bool}{d:Array α}{j i:Nat}(h:i≤j)(hp:p d[i]! =true):scanUp p d j i=scanUp p d j (i+1):=by rw [scanUp];simp [h,hp]
theorem up_stop {p:α→Bool}{d:Array α}{j i:Nat}(h:j<i∨p d[i]! =false):scanUp p d j i=i:=by
 rw [scanUp]
 rcases h with h|h
 ·simp [Nat.not_le.2 h]
 ·simp [h]
theorem down_go {p:α→Bool}{d:Array α}{i j:Nat}(h:i≤j+1)(hp:p d[j+1]! =true):scanDown p d i (j+1)=scanDown p d i j:=by rw [scanDown];simp [h,hp]
theorem down_stop {p:α→Bool}{d:Array α}{i j:Nat}(h:j<i∨p d[j]! =false):scanDown p d i j=j:=by
 cases j with
 | zero=>rfl
 | succ j =>
  rw [scanDown]
  rcases h with h|h
  ·simp [Nat.not_le.2 h]
  ·simp [h]
theorem scan_apart {p q:α→Bool}(hq:∀x,q x=!p x){d:Array α}{i j I J:Nat}(hI:scanUp p d j i=I)(hJ:scanDown q d I j=J)(hij:i≤j+1)(h1:0<i)(h:I≤J):I<J:=by
 subst hI;subst hJ
 exact((round_facts p q hq d (i-1) (j+1) i j (by omega) hij (fun t h1 h2=>by omega) (fun t h1 h2=>by omega)).2.2.2.2.2.2 (by omega)).2.2
variable (lt:α→α→Bool)
theorem eqLoop_step {a i j I J:Nat}{d:Array α}(hI:scanUp (fun z=>!lt d[a]! z) d j i=I)(hJ:scanDown (fun z=>lt d[a]! z) d I j=J)(h:I≤J):partEqLoop lt a i j d=partEqLoop lt a (I+1) (J-1) (swp d I J):=by
 subst hI;subst hJ
 rw [partEqLoop_eq,if_neg (by omega)]
theorem eqLoop_end {a i j I J:Nat}{d:Array α}(hI:scanUp (fun z=>!lt d[a]! z) d j i=I)(hJ:scanDown (fun z=>lt d[a]! z) d I j=J)(h:J<I):partEqLoop lt a i j d=(I,d):=by
 subst hI;subst hJ
 rw [partEqLoop_eq,if_pos (by omega)]
theorem parLoop_step {a i j I J:Nat}{d:Array α}(hI:scanUp (fun z=>lt z d[a]!) d j i=I)(hJ:scanDown (fun z=>!lt z d[a]!) d I j=J)(h:I≤J):partLoop lt a i j d=partLoop lt a (I+1) (J-1) (swp d I J):=by
 subst hI;subst hJ
 rw [partLoop_eq,if_neg (by omega)]
theorem parLoop_end {a i j I J:Nat}{d:Array α}(hI:scanUp (fun z=>lt z d[a]!) d j i=I)(hJ:scanDown (fun z=>!lt z d[a]!) d I j=J)(h:J<I):partLoop lt a i j d=(J,d):=by
 subst hI;subst hJ
 rw [partLoop_eq,if_pos (by omega)]
end
theorem parEq_any (blk off cap a b pv n:Nat)(d0 d:Array Int)(w0 w:World)(R:RB w0 blk off d0)(hs0:d0.size=n)(hsd:d.size=n)(S:SB w0 blk off d w)(hap:a≤pv)(hpb:pv<b)(hb:b≤n)(hsz:n<2305843009213693952):
  Calls Tryz.prog 205 #[.slice (some ⟨blk,off,none⟩) n cap,.int .i64 a,.int .i64 b,.int .i64 pv] w fun e w'=>∃(m:Nat) (d':Array Int),e=.returned (.int .i64 m)∧partitionEqual ltInt d a b pv=(m,d')∧SB w0 blk off d' w':=by
 have S0:=hid S
 clear S
 go_enter Tryz.func205,Tryz.ntmps205
 go_wp2_with fail
 obtain⟨iNA,hiNA⟩:∃zq,zq=a:=⟨_,rfl⟩
 have eiA:((a:Int)).toNat=iNA:=by omega
 have piA:(0:Int)≤(a:Int):=by omega
 have biA:(a:Int)<(n:Int):=by omega
 have riA:IntKind.i64.wrap ((a:Int))=(a:Int):=by rw [IntKind.wrap_i64];omega
 obtain⟨jNA,hjNA⟩:∃zq,zq=pv:=⟨_,rfl⟩
 have ejA:((pv:Int)).toNat=jNA:=by omega
 have pjA:(0:Int)≤(pv:Int):=by omega
 have bjA:(pv:Int)<(n:Int):=by omega
 have rjA:IntKind.i64.wrap ((pv:Int))=(pv:Int):=by rw [IntKind.wrap_i64];omega
 obtain⟨xA,hxA⟩:∃zx,zx=d[a]! :=⟨_,rfl⟩
 obtain⟨yA,hyA⟩:∃zx,zx=d[pv]! :=⟨_,rfl⟩
 have S1:Hid (SB w0 blk off (swp d (a) (pv)) ((w.setCell ⟨blk,off+iNA,none⟩ (.int .u8 yA)).setCell ⟨blk,off+jNA,none⟩ (.int .u8 xA)).drew):=hid (by rw [hiNA,hjNA,hxA,hyA];exact sb_swap S0.out R (a) (pv) (by omega) (by omega))
 have caA:w.cell? ⟨blk,off+iNA,none⟩=some (.int .u8 xA):=by rw [hiNA,hxA];exact sb_cell S0.out R (by omega) (a) (by omega)
 have cbA:w.cell? ⟨blk,off+jNA,none⟩=some (.int .u8 yA):=by rw [hjNA,hyA];exact sb_cell S0.out R (by omega) (pv) (by omega)
 have faA:w.frozen? ⟨blk,off+iNA,none⟩=false:=by rw [hiNA];exact SW.f1 S0.out R (by omega) (a) (by omega)
 have fbA:w.frozen? ⟨blk,off+jNA,none⟩=false:=by rw [hjNA];exact SW.f1 S0.out R (by omega) (pv) (by omega)
 obtain⟨uA,ccA⟩:∃u,(w.setCell ⟨blk,off+iNA,none⟩ (.int .u8 yA)).cell? ⟨blk,off+jNA,none⟩=some u:=by rw [hiNA,hjNA];exact SW.c2 S0.out R (by omega) (a) (pv) (by omega) (by omega) (.int .u8 yA)
 clear S0 hxA hyA hiNA hjNA
 go_wp2_with fail
 go_region
 clear caA cbA ccA faA fbA
 generalize ((w.setCell ⟨blk,off+iNA,none⟩ (.int .u8 yA)).setCell ⟨blk,off+jNA,none⟩ (.int .u8 xA)).drew=w1 at S1 ⊢
 clear eiA piA biA riA ejA pjA bjA rjA
 have hb1:((b-1:Nat):Int)=(b:Int)-1:=by omega
 have HB1:=hid hb1
 have hab0:(0:Int)≤(b:Int)-1:=by omega
 clear hb1
 have hsw:(swp d a pv).size=n:=by rw [size_swp];exact hsd
 obtain⟨ds,hds⟩:∃ds,ds=swp d a pv:=⟨_,rfl⟩
 have HDS:=hid hds
 rw [←hds]at S1 hsw
 clear hds
 go_wp2_with fail
 go_loopg [9,10] (b-a) (fun g1 vi vj wr=>∃(i j:Nat) (dk:Array Int),vi=.int .i64 i∧vj=.int .i64 j∧a<i∧i≤j+1∧j<b∧j+1-i≤g1∧dk.size=n∧Hid (SB w0 blk off dk wr)∧Hid (partEqLoop ltInt a i j dk=partEqLoop ltInt a (a+1) (b-1) ds))
 case atStart=>exact⟨a+1,b-1,ds,by go_num,by rw [HB1.out],by omega,by omega,by omega,by omega,hsw,S1,hid rfl⟩
 case round=>
  clear S1
  obtain⟨i,j,dk,rfl,rfl,hai,hij,hjb,hg1,hsk,S1,HO⟩:=hrel
  go_upto_block 2 with fail
  go_cut [9] (fun vi wx=>∃x:Nat,vi=.int .i64 x∧i≤x∧x≤j+1∧Hid (SB w0 blk off dk wx)∧Hid (scanUp (fun z=>!ltInt dk[a]! z) dk j i=x))
  case first=>
   go_wp2_with fail
   go_loopg [9] (j+1-i) (fun g2 vi wr=>∃x:Nat,vi=.int .i64 x∧i≤x∧x≤j+1∧j+1-x≤g2∧Hid (SB w0 blk off dk wr)∧Hid (scanUp (fun z=>!ltInt dk[a]! z) dk j i=scanUp (fun z=>!ltInt dk[a]! z) dk j x))
   case atStart=>exact⟨i,rfl,by omega,by omega,Nat.le_refl _,S1,hid rfl⟩
   case round=>
    clear S1
    obtain⟨x,rfl,hx1,hx2,hg2,SU,HU⟩:=hrel
    by_cases hle:x≤j
    ·have hg3:decide (x≤j)=true:=by simp;omega
     have hg4:(x:Int)≤(j:Int):=by omega
     cases hlv:ltInt dk[a]! dk[x]! with
     | false =>
      have HN:=hid (HU.out.trans (up_go (p:=fun z=>!ltInt dk[a]! z) (by omega) (by simp [hlv])))
      go_wp2_with fail
      obtain⟨iNUg,hiNUg⟩:∃zq,zq=a:=⟨_,rfl⟩
      have eiUg:((a:Int)).toNat=iNUg:=by omega
      have piUg:(0:Int)≤(a:Int):=by omega
      have biUg:(a:Int)<(n:Int):=by omega
      have riUg:IntKind.i64.wrap ((a:Int))=(a:Int):=by rw [IntKind.wrap_i64];omega
      obtain⟨jNUg,hjNUg⟩:∃zq,zq=x:=⟨_,rfl⟩
      have ejUg:((x:Int)).toNat=jNUg:=by omega
      have pjUg:(0:Int)≤(x:Int):=by omega
      have bjUg:(x:Int)<(n:Int):=by omega
      have rjUg:IntKind.i64.wrap ((x:Int))=(x:Int):=by rw [IntKind.wrap_i64];omega
      obtain⟨xUg,hxUg⟩:∃zx,zx=dk[a]! :=⟨_,rfl⟩
      obtain⟨yUg,hyUg⟩:∃zx,zx=dk[x]! :=⟨_,rfl⟩
      have laUg:wr.cell? ⟨blk,off+iNUg,none⟩=some (.int .u8 xUg):=by rw [hiNUg,hxUg];exact sb_cell SU.out R (by omega) (a) (by omega)
      have lbUg:wr.cell? ⟨blk,off+jNUg,none⟩=some (.int .u8 yUg):=by rw [hjNUg,hyUg];exact sb_cell SU.out R (by omega) (x) (by omega)
      have hvUg:ltInt xUg yUg=false:=by rw [hxUg,hyUg];exact hlv
      have HVUg:=hid hvUg
      clear hxUg hyUg hiNUg hjNUg hvUg
      go_wp2_with fail
      go_quiet ((go_at_call 204;exact Calls.quiet_of_same (less_q _ _ _ HVUg.out _)))
      have SL:=hid (SW.drewN SU.out nq)
      clear laUg lbUg HVUg SU
      generalize wr.drewN nq=wl at SL ⊢
      clear nq eiUg piUg biUg riUg ejUg pjUg bjUg rjUg
      go_wp2
      go_roundg (j+1-(x+1))
      case measure=>omega
      case rel=>exact⟨x+1,by go_num,by omega,by omega,Nat.le_refl _,SL,HN⟩
     | true =>
      have HN:=hid (HU.out.trans (up_stop (p:=fun z=>!ltInt dk[a]! z) (.inr (by simp [hlv]))))
      go_wp2_with fail
      obtain⟨iNUs,hiNUs⟩:∃zq,zq=a:=⟨_,rfl⟩
      have eiUs:((a:Int)).toNat=iNUs:=by omega
      have piUs:(0:Int)≤(a:Int):=by omega
      have biUs:(a:Int)<(n:Int):=by omega
      have riUs:IntKind.i64.wrap ((a:Int))=(a:Int):=by rw [IntKind.wrap_i64];omega
      obtain⟨jNUs,hjNUs⟩:∃zq,zq=x:=⟨_,rfl⟩
      have ejUs:((x:Int)).toNat=jNUs:=by omega
      have pjUs:(0:Int)≤(x:Int):=by omega
      have bjUs:(x:Int)<(n:Int):=by omega
      have rjUs:IntKind.i64.wrap ((x:Int))=(x:Int):=by rw [IntKind.wrap_i64];omega
      obtain⟨xUs,hxUs⟩:∃zx,zx=dk[a]! :=⟨_,rfl⟩
      obtain⟨yUs,hyUs⟩:∃zx,zx=dk[x]! :=⟨_,rfl⟩
      have laUs:wr.cell? ⟨blk,off+iNUs,none⟩=some (.int .u8 xUs):=by rw [hiNUs,hxUs];exact sb_cell SU.out R (by omega) (a) (by omega)
      have lbUs:wr.cell? ⟨blk,off+jNUs,none⟩=some (.int .u8 yUs):=by rw [hjNUs,hyUs];exact sb_cell SU.out R (by omega) (x) (by omega)
      have hvUs:ltInt xUs yUs=true:=by rw [hxUs,hyUs];exact hlv
      have HVUs:=hid hvUs
      clear hxUs hyUs hiNUs hjNUs hvUs
      go_wp2_with fail
      go_quiet ((go_at_call 204;exact Calls.quiet_of_same (less_q _ _ _ HVUs.out _)))
      have SL:=hid (SW.drewN SU.out nq)
      clear laUs lbUs HVUs SU
      generalize wr.drewN nq=wl at SL ⊢
      clear nq eiUs piUs biUs riUs ejUs pjUs bjUs rjUs
      go_wp2
      go_meet
      case rel=>exact⟨x,by first|rfl|go_num,hx1,hx2,SL,HN⟩
    ·have hg3:decide (x≤j)=false:=by simp;omega
     have hg4:¬(x:Int)≤(j:Int):=by omega
     have HN:=hid (HU.out.trans (up_stop (p:=fun z=>!ltInt dk[a]! z) (.inl (by omega))))
     go_wp2_with fail
     go_quiet (fail)
     have SL:=hid (SW.drewN SU.out nq)
     generalize wr.drewN nq=wl at SL ⊢
     go_wp2
     go_meet
     case rel=>exact⟨x,rfl,hx1,hx2,SL,HN⟩
  case rest=>
   clear S1
   obtain⟨I,rfl,hI1,hI2,S3,HI⟩:=hcut
   go_upto_block 4 with fail
   go_cut [10] (fun vi wx=>∃x:Nat,vi=.int .i64 x∧I≤x+1∧x≤j∧Hid (SB w0 blk off dk wx)∧Hid (scanDown (fun z=>ltInt dk[a]! z) dk I j=x))
   case first=>
    go_wp2_with fail
    go_loopg [10] (j) (fun g2 vi wr=>∃x:Nat,vi=.int .i64 x∧I≤x+1∧x≤j∧x≤g2∧Hid (SB w0 blk off dk wr)∧Hid (scanDown (fun z=>ltInt dk[a]! z) dk I j=scanDown (fun z=>ltInt dk[a]! z) dk I x))
    case atStart=>exact⟨j,rfl,by omega,by omega,Nat.le_refl _,S3,hid rfl⟩
    case round=>
     clear S3
     obtain⟨x,rfl,hx1,hx2,hg2,SU,HU⟩:=hrel
     by_cases hle:I≤x
     ·obtain⟨xp,rfl⟩:∃xp,x=xp+1:=⟨x-1,by omega⟩
      have hg3:decide (I≤xp+1)=true:=by simp;omega
      have hg4:(I:Int)≤(xp:Int)+1:=by omega
      have hg5:decide ((I:Int)≤(xp:Int)+1)=true:=by simp;omega
      cases hlv:ltInt dk[a]! dk[xp+1]! with
      | true =>
       have HN:=hid (HU.out.trans (down_go (p:=fun z=>ltInt dk[a]! z) (by omega) (by simp [hlv])))
       go_wp2_with fail
       obtain⟨iNVg,hiNVg⟩:∃zq,zq=a:=⟨_,rfl⟩
       have eiVg:((a:Int)).toNat=iNVg:=by omega
       have piVg:(0:Int)≤(a:Int):=by omega
       have biVg:(a:Int)<(n:Int):=by omega
       have riVg:IntKind.i64.wrap ((a:Int))=(a:Int):=by rw [IntKind.wrap_i64];omega
       obtain⟨jNVg,hjNVg⟩:∃zq,zq=xp+1:=⟨_,rfl⟩
       have ejVg:((xp:Int)+1).toNat=jNVg:=by omega
       have pjVg:(0:Int)≤(xp:Int)+1:=by omega
       have bjVg:(xp:Int)+1<(n:Int):=by omega
       have rjVg:IntKind.i64.wrap ((xp:Int)+1)=(xp:Int)+1:=by rw [IntKind.wrap_i64];omega
       obtain⟨xVg,hxVg⟩:∃zx,zx=dk[a]! :=⟨_,rfl⟩
       obtain⟨yVg,hyVg⟩:∃zx,zx=dk[xp+1]! :=⟨_,rfl⟩
       have laVg:wr.cell? ⟨blk,off+iNVg,none⟩=some (.int .u8 xVg):=by rw [hiNVg,hxVg];exact sb_cell SU.out R (by omega) (a) (by omega)
       have lbVg:wr.cell? ⟨blk,off+jNVg,none⟩=some (.int .u8 yVg):=by rw [hjNVg,hyVg];exact sb_cell SU.out R (by omega) (xp+1) (by omega)
       have hvVg:ltInt xVg yVg=true:=by rw [hxVg,hyVg];exact hlv
       have HVVg:=hid hvVg
       clear hxVg hyVg hiNVg hjNVg hvVg
       go_wp2_with fail
       go_quiet ((go_at_call 204;exact Calls.quiet_of_same (less_q _ _ _ HVVg.out _)))
       have SL:=hid (SW.drewN SU.out nq)
       clear laVg lbVg HVVg SU
       generalize wr.drewN nq=wl at SL ⊢
       clear nq eiVg piVg biVg riVg ejVg pjVg bjVg rjVg
       go_wp2
       go_roundg xp
       case measure=>omega
       case rel=>exact⟨xp,by go_num,by omega,by omega,Nat.le_refl _,SL,HN⟩
      | false =>
       have HN:=hid (HU.out.trans (down_stop (p:=fun z=>ltInt dk[a]! z) (.inr (by simp [hlv]))))
       go_wp2_with fail
       obtain⟨iNVs,hiNVs⟩:∃zq,zq=a:=⟨_,rfl⟩
       have eiVs:((a:Int)).toNat=iNVs:=by omega
       have piVs:(0:Int)≤(a:Int):=by omega
       have biVs:(a:Int)<(n:Int):=by omega
       have riVs:IntKind.i64.wrap ((a:Int))=(a:Int):=by rw [IntKind.wrap_i64];omega
       obtain⟨jNVs,hjNVs⟩:∃zq,zq=xp+1:=⟨_,rfl⟩
       have ejVs:((xp:Int)+1).toNat=jNVs:=by omega
       have pjVs:(0:Int)≤(xp:Int)+1:=by omega
       have bjVs:(xp:Int)+1<(n:Int):=by omega
       have rjVs:IntKind.i64.wrap ((xp:Int)+1)=(xp:Int)+1:=by rw [IntKind.wrap_i64];omega
       obtain⟨xVs,hxVs⟩:∃zx,zx=dk[a]! :=⟨_,rfl⟩
       obtain⟨yVs,hyVs⟩:∃zx,zx=dk[xp+1]! :=⟨_,rfl⟩
       have laVs:wr.cell? ⟨blk,off+iNVs,none⟩=some (.int .u8 xVs):=by rw [hiNVs,hxVs];exact sb_cell SU.out R (by omega) (a) (by omega)
       have lbVs:wr.cell? ⟨blk,off+jNVs,none⟩=some (.int .u8 yVs):=by rw [hjNVs,hyVs];exact sb_cell SU.out R (by omega) (xp+1) (by omega)
       have hvVs:ltInt xVs yVs=false:=by rw [hxVs,hyVs];exact hlv
       have HVVs:=hid hvVs
       clear hxVs hyVs hiNVs hjNVs hvVs
       go_wp2_with fail
       go_quiet ((go_at_call 204;exact Calls.quiet_of_same (less_q _ _ _ HVVs.out _)))
       have SL:=hid (SW.drewN SU.out nq)
       clear laVs lbVs HVVs SU
       generalize wr.drewN nq=wl at SL ⊢
       clear nq eiVs piVs biVs riVs ejVs pjVs bjVs rjVs
       go_wp2
       go_meet
       case rel=>exact⟨xp+1,by first|rfl|go_num,hx1,hx2,SL,HN⟩
     ·have hg3:decide (I≤x)=false:=by simp;omega
      have hg4:¬(I:Int)≤(x:Int):=by omega
      have HN:=hid (HU.out.trans (down_stop (p:=fun z=>ltInt dk[a]! z) (.inl (by omega))))
      go_wp2_with fail
      go_quiet (fail)
      have SL:=hid (SW.drewN SU.out nq)
      generalize wr.drewN nq=wl at SL ⊢
      go_wp2
      go_meet
      case rel=>exact⟨x,rfl,hx1,hx2,SL,HN⟩
   case rest=>
    clear S3
    obtain⟨J,rfl,hJ1,hJ2,S4,HJ⟩:=hcut
    by_cases hIJ:J<I
    ·have hz:(J:Int)<(I:Int):=by omega
     have hz2:decide (J<I)=true:=by simp;omega
     go_wp2
     go_ret
     exact⟨I,dk,rfl,by unfold partitionEqual;rw [←HDS.out,←HO.out];exact eqLoop_end ltInt HI.out HJ.out hIJ,S4.out⟩
    ·have hz:¬(J:Int)<(I:Int):=by omega
     have hz2:decide (J<I)=false:=by simp;omega
     have hlt:=scan_apart (by simp) HI.out HJ.out hij (by omega) (by omega:I≤J)
     obtain⟨Jp,rfl⟩:∃Jp,J=Jp+1:=⟨J-1,by omega⟩
     have HST:=hid ((eqLoop_step ltInt HI.out HJ.out (by omega)).symm.trans HO.out)
     go_wp2_with fail
     obtain⟨iNW,hiNW⟩:∃zq,zq=I:=⟨_,rfl⟩
     have eiW:((I:Int)).toNat=iNW:=by omega
     have piW:(0:Int)≤(I:Int):=by omega
     have biW:(I:Int)<(n:Int):=by omega
     have riW:IntKind.i64.wrap ((I:Int))=(I:Int):=by rw [IntKind.wrap_i64];omega
     obtain⟨jNW,hjNW⟩:∃zq,zq=Jp+1:=⟨_,rfl⟩
     have ejW:((Jp:Int)+1).toNat=jNW:=by omega
     have pjW:(0:Int)≤(Jp:Int)+1:=by omega
     have bjW:(Jp:Int)+1<(n:Int):=by omega
     have rjW:IntKind.i64.wrap ((Jp:Int)+1)=(Jp:Int)+1:=by rw [IntKind.wrap_i64];omega
     obtain⟨xW,hxW⟩:∃zx,zx=dk[I]! :=⟨_,rfl⟩
     obtain⟨yW,hyW⟩:∃zx,zx=dk[Jp+1]! :=⟨_,rfl⟩
     have S5:Hid (SB w0 blk off (swp dk (I) (Jp+1)) ((wc.setCell ⟨blk,off+iNW,none⟩ (.int .u8 yW)).setCell ⟨blk,off+jNW,none⟩ (.int .u8 xW)).drew):=hid (by rw [hiNW,hjNW,hxW,hyW];exact sb_swap S4.out R (I) (Jp+1) (by omega) (by omega))
     have caW:wc.cell? ⟨blk,off+iNW,none⟩=some (.int .u8 xW):=by rw [hiNW,hxW];exact sb_cell S4.out R (by omega) (I) (by omega)
     have cbW:wc.cell? ⟨blk,off+jNW,none⟩=some (.int .u8 yW):=by rw [hjNW,hyW];exact sb_cell S4.out R (by omega) (Jp+1) (by omega)
     have faW:wc.frozen? ⟨blk,off+iNW,none⟩=false:=by rw [hiNW];exact SW.f1 S4.out R (by omega) (I) (by omega)
     have fbW:wc.frozen? ⟨blk,off+jNW,none⟩=false:=by rw [hjNW];exact SW.f1 S4.out R (by omega) (Jp+1) (by omega)
     obtain⟨uW,ccW⟩:∃u,(wc.setCell ⟨blk,off+iNW,none⟩ (.int .u8 yW)).cell? ⟨blk,off+jNW,none⟩=some u:=by rw [hiNW,hjNW];exact SW.c2 S4.out R (by omega) (I) (Jp+1) (by omega) (by omega) (.int .u8 yW)
     clear S4 hxW hyW hiNW hjNW
     go_wp2_with fail
     go_region
     clear caW cbW ccW faW fbW
     generalize ((wc.setCell ⟨blk,off+iNW,none⟩ (.int .u8 yW)).setCell ⟨blk,off+jNW,none⟩ (.int .u8 xW)).drew=w5 at S5 ⊢
     clear eiW piW biW riW ejW pjW bjW rjW
     go_wp2
     go_roundg (Jp+1-(I+1))
     case measure=>omega
     case rel=>exact⟨I+1,Jp,swp dk I (Jp+1),by go_num,by go_num,by omega,by omega,by omega,by omega,by rw [size_swp];exact hsk,S5,HST⟩
end
section
open Go.RowKit Go.Sort

def Prt (w0:World)(blk off:Nat)(d:Array Int)(a b pv:Nat)(e:Ending)(w':World):Prop:=∃(m:Nat) (ap:Bool) (d':Array Int),e=.returned (.tuple #[.int .i64 m,.bool ap])∧partition ltInt d a b pv=(m,ap,d')∧SB w0 blk off d' w'
theorem par_early {d:Array Int}{a b pv I J:Nat}{ds:Array Int}(hds:ds=swp d a pv)(hI:scanUp (fun z=>ltInt z ds[a]!) ds (b-1) (a+1)=I)(hJ:scanDown (fun z=>!ltInt z ds[a]!) ds I (b-1)=J)(h:J<I):partition ltInt d a b pv=(J,true,swp ds J a):=by
 subst hds;subst hI;subst hJ
 unfold partition
 simp only []
 rw [if_pos (by omega)]
theorem par_late {d:Array Int}{a b pv I J m:Nat}{ds dm:Array Int}(hds:ds=swp d a pv)(hI:scanUp (fun z=>ltInt z ds[a]!) ds (b-1) (a+1)=I)(hJ:scanDown (fun z=>!ltInt z ds[a]!) ds I (b-1)=J)(h:I≤J)(hm:partLoop ltInt a (I+1) (J-1) (swp ds I J)=(m,dm)):partition ltInt d a b pv=(m,false,swp dm m a):=by
 subst hds;subst hI;subst hJ
 unfold partition
 simp only []
 rw [if_neg (by omega),hm]
theorem part_any (blk off cap a b pv n:Nat)(d0 d:Array Int)(w0 w:World)(R:RB w0 blk off d0)(hs0:d0.size=n)(hsd:d.size=n)(S:SB w0 blk off d w)(hap:a≤pv)(hpb:pv<b)(hb:b≤n)(hsz:n<2305843009213693952):
  Calls Tryz.prog 206 #[.slice (some ⟨blk,off,none⟩) n cap,.int .i64 a,.int .i64 b,.int .i64 pv] w (Prt w0 blk off d a b pv):=by
 have S0:=hid S
 clear S
 obtain⟨b1,hb1⟩:∃b1,b1=b-1:=⟨_,rfl⟩
 have hbz:(b:Int)-1=(b1:Int):=by omega
 obtain⟨a1,ha1⟩:∃a1,a1=a+1:=⟨_,rfl⟩
 have haz:(a:Int)+1=(a1:Int):=by omega
 have HA1:=hid ha1
 have HB1:=hid hb1
 have la1:a<a1:=by omega
 have la2:a1≤a+1:=by omega
 have lb1:b1<b:=by omega
 have lb2:b≤b1+1:=by omega
 clear ha1 hb1
 go_enter Tryz.func206,Tryz.ntmps206
 go_wp2_with fail
 obtain⟨iNA,hiNA⟩:∃zq,zq=a:=⟨_,rfl⟩
 have eiA:((a:Int)).toNat=iNA:=by omega
 have piA:(0:Int)≤(a:Int):=by omega
 have biA:(a:Int)<(n:Int):=by omega
 have riA:IntKind.i64.wrap ((a:Int))=(a:Int):=by rw [IntKind.wrap_i64];omega
 obtain⟨jNA,hjNA⟩:∃zq,zq=pv:=⟨_,rfl⟩
 have ejA:((pv:Int)).toNat=jNA:=by omega
 have pjA:(0:Int)≤(pv:Int):=by omega
 have bjA:(pv:Int)<(n:Int):=by omega
 have rjA:IntKind.i64.wrap ((pv:Int))=(pv:Int):=by rw [IntKind.wrap_i64];omega
 obtain⟨xA,hxA⟩:∃zx,zx=d[a]! :=⟨_,rfl⟩
 obtain⟨yA,hyA⟩:∃zx,zx=d[pv]! :=⟨_,rfl⟩
 have S1:Hid (SB w0 blk off (swp d (a) (pv)) ((w.setCell ⟨blk,off+iNA,none⟩ (.int .u8 yA)).setCell ⟨blk,off+jNA,none⟩ (.int .u8 xA)).drew):=hid (by rw [hiNA,hjNA,hxA,hyA];exact sb_swap S0.out R (a) (pv) (by omega) (by omega))
 have caA:w.cell? ⟨blk,off+iNA,none⟩=some (.int .u8 xA):=by rw [hiNA,hxA];exact sb_cell S0.out R (by omega) (a) (by omega)
 have cbA:w.cell? ⟨blk,off+jNA,none⟩=some (.int .u8 yA):=by rw [hjNA,hyA];exact sb_cell S0.out R (by omega) (pv) (by omega)
 have faA:w.frozen? ⟨blk,off+iNA,none⟩=false:=by rw [hiNA];exact SW.f1 S0.out R (by omega) (a) (by omega)
 have fbA:w.frozen? ⟨blk,off+jNA,none⟩=false:=by rw [hjNA];exact SW.f1 S0.out R (by omega) (pv) (by omega)
 obtain⟨uA,ccA⟩:∃u,(w.setCell ⟨blk,off+iNA,none⟩ (.int .u8 yA)).cell? ⟨blk,off+jNA,none⟩=some u:=by rw [hiNA,hjNA];exact SW.c2 S0.out R (by omega) (a) (pv) (by omega) (by omega) (.int .u8 yA)
 clear S0 hxA hyA hiNA hjNA
 go_wp2_with fail
 go_region
 clear caA cbA ccA faA fbA
 generalize ((w.setCell ⟨blk,off+iNA,none⟩ (.int .u8 yA)).setCell ⟨blk,off+jNA,none⟩ (.int .u8 xA)).drew=w1 at S1 ⊢
 clear eiA piA biA riA ejA pjA bjA rjA
 have hsw:(swp d a pv).size=n:=by rw [size_swp];exact hsd
 obtain⟨ds,hds⟩:∃ds,ds=swp d a pv:=⟨_,rfl⟩
 have HDS:=hid hds
 rw [←hds]at S1 hsw
 clear hds
 go_upto_block 0 with fail
 go_cut [10] (fun vi wx=>∃x:Nat,vi=.int .i64 x∧a1≤x∧x≤b1+1∧Hid (SB w0 blk off ds wx)∧Hid (scanUp (fun z=>ltInt z ds[a]!) ds b1 a1=x))
 case first=>
  go_wp2_with fail
  go_loopg [10] (b1+1-a1) (fun g2 vi wr=>∃x:Nat,vi=.int .i64 x∧a1≤x∧x≤b1+1∧b1+1-x≤g2∧Hid (SB w0 blk off ds wr)∧Hid (scanUp (fun z=>ltInt z ds[a]!) ds b1 a1=scanUp (fun z=>ltInt z ds[a]!) ds b1 x))
  case atStart=>exact⟨a1,rfl,by omega,by omega,Nat.le_refl _,S1,hid rfl⟩
  case round=>
   clear S1
   obtain⟨x,rfl,hx1,hx2,hg2,SU,HU⟩:=hrel
   by_cases hle:x≤b1
   ·have hg3:decide (x≤b1)=true:=by simp;omega
    have hg4:(x:Int)≤(b1:Int):=by omega
    cases hlv:ltInt ds[x]! ds[a]! with
    | true =>
     have HN:=hid (HU.out.trans (up_go (p:=fun z=>ltInt z ds[a]!) (by omega) (by simp [hlv])))
     go_wp2_with fail
     obtain⟨iNUg,hiNUg⟩:∃zq,zq=x:=⟨_,rfl⟩
     have eiUg:((x:Int)).toNat=iNUg:=by omega
     have piUg:(0:Int)≤(x:Int):=by omega
     have biUg:(x:Int)<(n:Int):=by omega
     have riUg:IntKind.i64.wrap ((x:Int))=(x:Int):=by rw [IntKind.wrap_i64];omega
     obtain⟨jNUg,hjNUg⟩:∃zq,zq=a:=⟨_,rfl⟩
     have ejUg:((a:Int)).toNat=jNUg:=by omega
     have pjUg:(0:Int)≤(a:Int):=by omega
     have bjUg:(a:Int)<(n:Int):=by omega
     have rjUg:IntKind.i64.wrap ((a:Int))=(a:Int):=by rw [IntKind.wrap_i64];omega
     obtain⟨xUg,hxUg⟩:∃zx,zx=ds[x]! :=⟨_,rfl⟩
     obtain⟨yUg,hyUg⟩:∃zx,zx=ds[a]! :=⟨_,rfl⟩
     have laUg:wr.cell? ⟨blk,off+iNUg,none⟩=some (.int .u8 xUg):=by rw [hiNUg,hxUg];exact sb_cell SU.out R (by omega) (x) (by omega)
     have lbUg:wr.cell? ⟨blk,off+jNUg,none⟩=some (.int .u8 yUg):=by rw [hjNUg,hyUg];exact sb_cell SU.out R (by omega) (a) (by omega)
     have hvUg:ltInt xUg yUg=true:=by rw [hxUg,hyUg];exact hlv
     have HVUg:=hid hvUg
     clear hxUg hyUg hiNUg hjNUg hvUg
     go_wp2_with fail
     go_quiet ((go_at_call 204;exact Calls.quiet_of_same (less_q _ _ _ HVUg.out _)))
     have SL:=hid (SW.drewN SU.out nq)
     clear laUg lbUg HVUg SU
     generalize wr.drewN nq=wl at SL ⊢
     clear nq eiUg piUg biUg riUg ejUg pjUg bjUg rjUg
     go_wp2
     go_roundg (b1+1-(x+1))
     case measure=>omega
     case rel=>exact⟨x+1,by go_num,by omega,by omega,Nat.le_refl _,SL,HN⟩
    | false =>
     have HN:=hid (HU.out.trans (up_stop (p:=fun z=>ltInt z ds[a]!) (.inr (by simp [hlv]))))
     go_wp2_with fail
     obtain⟨iNUs,hiNUs⟩:∃zq,zq=x:=⟨_,rfl⟩
     have eiUs:((x:Int)).toNat=iNUs:=by omega
     have piUs:(0:Int)≤(x:Int):=by omega
     have biUs:(x:Int)<(n:Int):=by omega
     have riUs:IntKind.i64.wrap ((x:Int))=(x:Int):=by rw [IntKind.wrap_i64];omega
     obtain⟨jNUs,hjNUs⟩:∃zq,zq=a:=⟨_,rfl⟩
     have ejUs:((a:Int)).toNat=jNUs:=by omega
     have pjUs:(0:Int)≤(a:Int):=by omega
     have bjUs:(a:Int)<(n:Int):=by omega
     have rjUs:IntKind.i64.wrap ((a:Int))=(a:Int):=by rw [IntKind.wrap_i64];omega
     obtain⟨xUs,hxUs⟩:∃zx,zx=ds[x]! :=⟨_,rfl⟩
     obtain⟨yUs,hyUs⟩:∃zx,zx=ds[a]! :=⟨_,rfl⟩
     have laUs:wr.cell? ⟨blk,off+iNUs,none⟩=some (.int .u8 xUs):=by rw [hiNUs,hxUs];exact sb_cell SU.out R (by omega) (x) (by omega)
     have lbUs:wr.cell? ⟨blk,off+jNUs,none⟩=some (.int .u8 yUs):=by rw [hjNUs,hyUs];exact sb_cell SU.out R (by omega) (a) (by omega)
     have hvUs:ltInt xUs yUs=false:=by rw [hxUs,hyUs];exact hlv
     have HVUs:=hid hvUs
     clear hxUs hyUs hiNUs hjNUs hvUs
     go_wp2_with fail
     go_quiet ((go_at_call 204;exact Calls.quiet_of_same (less_q _ _ _ HVUs.out _)))
     have SL:=hid (SW.drewN SU.out nq)
     clear laUs lbUs HVUs SU
     generalize wr.drewN nq=wl at SL ⊢
     clear nq eiUs piUs biUs riUs ejUs pjUs bjUs rjUs
     go_wp2
     go_meet
     case rel=>exact⟨x,by first|rfl|go_num,hx1,hx2,SL,HN⟩
   ·have hg3:decide (x≤b1)=false:=by simp;omega
    have hg4:¬(x:Int)≤(b1:Int):=by omega
    have HN:=hid (HU.out.trans (up_stop (p:=fun z=>ltInt z ds[a]!) (.inl (by omega))))
    go_wp2_with fail
    go_quiet (fail)
    have SL:=hid (SW.drewN SU.out nq)
    generalize wr.drewN nq=wl at SL ⊢
    go_wp2
    go_meet
    case rel=>exact⟨x,rfl,hx1,hx2,SL,HN⟩
 case rest=>
  clear S1
  obtain⟨I,rfl,hI1,hI2,S3,HI⟩:=hcut
  go_upto_block 2 with fail
  go_cut [11] (fun vi wx=>∃x:Nat,vi=.int .i64 x∧I≤x+1∧x≤b1∧Hid (SB w0 blk off ds wx)∧Hid (scanDown (fun z=>!ltInt z ds[a]!) ds I b1=x))
  case first=>
   go_wp2_with fail
   go_loopg [11] (b1) (fun g2 vi wr=>∃x:Nat,vi=.int .i64 x∧I≤x+1∧x≤b1∧x≤g2∧Hid (SB w0 blk off ds wr)∧Hid (scanDown (fun z=>!ltInt z ds[a]!) ds I b1=scanDown (fun z=>!ltInt z ds[a]!) ds I x))
   case atStart=>exact⟨b1,rfl,by omega,by omega,Nat.le_refl _,S3,hid rfl⟩
   case round=>
    clear S3
    obtain⟨x,rfl,hx1,hx2,hg2,SU,HU⟩:=hrel
    by_cases hle:I≤x
    ·obtain⟨xp,rfl⟩:∃xp,x=xp+1:=⟨x-1,by omega⟩
     have hg3:decide (I≤xp+1)=true:=by simp;omega
     have hg4:(I:Int)≤(xp:Int)+1:=by omega
     have hg5:decide ((I:Int)≤(xp:Int)+1)=true:=by simp;omega
     cases hlv:ltInt ds[xp+1]! ds[a]! with
     | false =>
      have HN:=hid (HU.out.trans (down_go (p:=fun z=>!ltInt z ds[a]!) (by omega) (by simp [hlv])))
      go_wp2_with fail
      obtain⟨iNVg,hiNVg⟩:∃zq,zq=xp+1:=⟨_,rfl⟩
      have eiVg:((xp:Int)+1).toNat=iNVg:=by omega
      have piVg:(0:Int)≤(xp:Int)+1:=by omega
      have biVg:(xp:Int)+1<(n:Int):=by omega
      have riVg:IntKind.i64.wrap ((xp:Int)+1)=(xp:Int)+1:=by rw [IntKind.wrap_i64];omega
      obtain⟨jNVg,hjNVg⟩:∃zq,zq=a:=⟨_,rfl⟩
      have ejVg:((a:Int)).toNat=jNVg:=by omega
      have pjVg:(0:Int)≤(a:Int):=by omega
      have bjVg:(a:Int)<(n:Int):=by omega
      have rjVg:IntKind.i64.wrap ((a:Int))=(a:Int):=by rw [IntKind.wrap_i64];omega
      obtain⟨xVg,hxVg⟩:∃zx,zx=ds[xp+1]! :=⟨_,rfl⟩
      obtain⟨yVg,hyVg⟩:∃zx,zx=ds[a]! :=⟨_,rfl⟩
      have laVg:wr.cell? ⟨blk,off+iNVg,none⟩=some (.int .u8 xVg):=by rw [hiNVg,hxVg];exact sb_cell SU.out R (by omega) (xp+1) (by omega)
      have lbVg:wr.cell? ⟨blk,off+jNVg,none⟩=some (.int .u8 yVg):=by rw [hjNVg,hyVg];exact sb_cell SU.out R (by omega) (a) (by omega)
      have hvVg:ltInt xVg yVg=false:=by rw [hxVg,hyVg];exact hlv
      have HVVg:=hid hvVg
      clear hxVg hyVg hiNVg hjNVg hvVg
      go_wp2_with fail
      go_quiet ((go_at_call 204;exact Calls.quiet_of_same (less_q _ _ _ HVVg.out _)))
      have SL:=hid (SW.drewN SU.out nq)
      clear laVg lbVg HVVg SU
      generalize wr.drewN nq=wl at SL ⊢
      clear nq eiVg piVg biVg riVg ejVg pjVg bjVg rjVg
      go_wp2
      go_roundg xp
      case measure=>omega
      case rel=>exact⟨xp,by go_num,by omega,by omega,Nat.le_refl _,SL,HN⟩
     | true =>
      have HN:=hid (HU.out.trans (down_stop (p:=fun z=>!ltInt z ds[a]!) (.inr (by simp [hlv]))))
      go_wp2_with fail
      obtain⟨iNVs,hiNVs⟩:∃zq,zq=xp+1:=⟨_,rfl⟩
      have eiVs:((xp:Int)+1).toNat=iNVs:=by omega
      have piVs:(0:Int)≤(xp:Int)+1:=by omega
      have biVs:(xp:Int)+1<(n:Int):=by omega
      have riVs:IntKind.i64.wrap ((xp:Int)+1)=(xp:Int)+1:=by rw [IntKind.wrap_i64];omega
      obtain⟨jNVs,hjNVs⟩:∃zq,zq=a:=⟨_,rfl⟩
      have ejVs:((a:Int)).toNat=jNVs:=by omega
      have pjVs:(0:Int)≤(a:Int):=by omega
      have bjVs:(a:Int)<(n:Int):=by omega
      have rjVs:IntKind.i64.wrap ((a:Int))=(a:Int):=by rw [IntKind.wrap_i64];omega
      obtain⟨xVs,hxVs⟩:∃zx,zx=ds[xp+1]! :=⟨_,rfl⟩
      obtain⟨yVs,hyVs⟩:∃zx,zx=ds[a]! :=⟨_,rfl⟩
      have laVs:wr.cell? ⟨blk,off+iNVs,none⟩=some (.int .u8 xVs):=by rw [hiNVs,hxVs];exact sb_cell SU.out R (by omega) (xp+1) (by omega)
      have lbVs:wr.cell? ⟨blk,off+jNVs,none⟩=some (.int .u8 yVs):=by rw [hjNVs,hyVs];exact sb_cell SU.out R (by omega) (a) (by omega)
      have hvVs:ltInt xVs yVs=true:=by rw [hxVs,hyVs];exact hlv
      have HVVs:=hid hvVs
      clear hxVs hyVs hiNVs hjNVs hvVs
      go_wp2_with fail
      go_quiet ((go_at_call 204;exact Calls.quiet_of_same (less_q _ _ _ HVVs.out _)))
      have SL:=hid (SW.drewN SU.out nq)
      clear laVs lbVs HVVs SU
      generalize wr.drewN nq=wl at SL ⊢
      clear nq eiVs piVs biVs riVs ejVs pjVs bjVs rjVs
      go_wp2
      go_meet
      case rel=>exact⟨xp+1,by first|rfl|go_num,hx1,hx2,SL,HN⟩
    ·have hg3:decide (I≤x)=false:=by simp;omega
     have hg4:¬(I:Int)≤(x:Int):=by omega
     have HN:=hid (HU.out.trans (down_stop (p:=fun z=>!ltInt z ds[a]!) (.inl (by omega))))
     go_wp2_with fail
     go_quiet (fail)
     have SL:=hid (SW.drewN SU.out nq)
     generalize wr.drewN nq=wl at SL ⊢
     go_wp2
     go_meet
     case rel=>exact⟨x,rfl,hx1,hx2,SL,HN⟩
  case rest=>
   clear S3
   obtain⟨J,rfl,hJ1,hJ2,S4,HJ⟩:=hcut
   have HI2:Hid (scanUp (fun z=>ltInt z ds[a]!) ds (b-1) (a+1)=I):=hid (by rw [←HA1.out,←HB1.out];exact HI.out)
   have HJ2:Hid (scanDown (fun z=>!ltInt z ds[a]!) ds I (b-1)=J):=hid (by rw [←HB1.out];exact HJ.out)
   by_cases hIJ:J<I
   ·have hz:(J:Int)<(I:Int):=by omega
    have hz2:decide (J<I)=true:=by simp;omega
    have HPAR:=hid (par_early HDS.out HI2.out HJ2.out hIJ)
    go_wp2_with fail
    obtain⟨iNE,hiNE⟩:∃zq,zq=J:=⟨_,rfl⟩
    have eiE:((J:Int)).toNat=iNE:=by omega
    have piE:(0:Int)≤(J:Int):=by omega
    have biE:(J:Int)<(n:Int):=by omega
    have riE:IntKind.i64.wrap ((J:Int))=(J:Int):=by rw [IntKind.wrap_i64];omega
    obtain⟨jNE,hjNE⟩:∃zq,zq=a:=⟨_,rfl⟩
    have ejE:((a:Int)).toNat=jNE:=by omega
    have pjE:(0:Int)≤(a:Int):=by omega
    have bjE:(a:Int)<(n:Int):=by omega
    have rjE:IntKind.i64.wrap ((a:Int))=(a:Int):=by rw [IntKind.wrap_i64];omega
    obtain⟨xE,hxE⟩:∃zx,zx=ds[J]! :=⟨_,rfl⟩
    obtain⟨yE,hyE⟩:∃zx,zx=ds[a]! :=⟨_,rfl⟩
    have S5:Hid (SB w0 blk off (swp ds (J) (a)) ((wc.setCell ⟨blk,off+iNE,none⟩ (.int .u8 yE)).setCell ⟨blk,off+jNE,none⟩ (.int .u8 xE)).drew):=hid (by rw [hiNE,hjNE,hxE,hyE];exact sb_swap S4.out R (J) (a) (by omega) (by omega))
    have caE:wc.cell? ⟨blk,off+iNE,none⟩=some (.int .u8 xE):=by rw [hiNE,hxE];exact sb_cell S4.out R (by omega) (J) (by omega)
    have cbE:wc.cell? ⟨blk,off+jNE,none⟩=some (.int .u8 yE):=by rw [hjNE,hyE];exact sb_cell S4.out R (by omega) (a) (by omega)
    have faE:wc.frozen? ⟨blk,off+iNE,none⟩=false:=by rw [hiNE];exact SW.f1 S4.out R (by omega) (J) (by omega)
    have fbE:wc.frozen? ⟨blk,off+jNE,none⟩=false:=by rw [hjNE];exact SW.f1 S4.out R (by omega) (a) (by omega)
    obtain⟨uE,ccE⟩:∃u,(wc.setCell ⟨blk,off+iNE,none⟩ (.int .u8 yE)).cell? ⟨blk,off+jNE,none⟩=some u:=by rw [hiNE,hjNE];exact SW.c2 S4.out R (by omega) (J) (a) (by omega) (by omega) (.int .u8 yE)
    clear S4 hxE hyE hiNE hjNE
    go_wp2_with fail
    go_region
    clear caE cbE ccE faE fbE
    generalize ((wc.setCell ⟨blk,off+iNE,none⟩ (.int .u8 yE)).setCell ⟨blk,off+jNE,none⟩ (.int .u8 xE)).drew=w5 at S5 ⊢
    clear eiE piE biE riE ejE pjE bjE rjE
    go_wp2
    refine bodyPost_ret (v:=.tuple #[.int .i64 (J:Int),.bool true]) (by simp [results,Tryz.results206,go_sem]) rfl ?_
    exact⟨J,true,_,rfl,HPAR.out,S5.out⟩
   ·have hz:¬(J:Int)<(I:Int):=by omega
    have hz2:decide (J<I)=false:=by simp;omega
    have hlt:=scan_apart (by simp) HI.out HJ.out (by omega) (by omega) (by omega:I≤J)
    obtain⟨Jp,rfl⟩:∃Jp,J=Jp+1:=⟨J-1,by omega⟩
    have HLATE:Hid (∀m dm,partLoop ltInt a (I+1) Jp (swp ds I (Jp+1))=(m,dm)→partition ltInt d a b pv=(m,false,swp dm m a)):=hid fun m dm h=>par_late HDS.out HI2.out HJ2.out (by omega) h
    go_wp2_with fail
    obtain⟨iNE,hiNE⟩:∃zq,zq=I:=⟨_,rfl⟩
    have eiE:((I:Int)).toNat=iNE:=by omega
    have piE:(0:Int)≤(I:Int):=by omega
    have biE:(I:Int)<(n:Int):=by omega
    have riE:IntKind.i64.wrap ((I:Int))=(I:Int):=by rw [IntKind.wrap_i64];omega
    obtain⟨jNE,hjNE⟩:∃zq,zq=Jp+1:=⟨_,rfl⟩
    have ejE:((Jp:Int)+1).toNat=jNE:=by omega
    have pjE:(0:Int)≤(Jp:Int)+1:=by omega
    have bjE:(Jp:Int)+1<(n:Int):=by omega
    have rjE:IntKind.i64.wrap ((Jp:Int)+1)=(Jp:Int)+1:=by rw [IntKind.wrap_i64];omega
    obtain⟨xE,hxE⟩:∃zx,zx=ds[I]! :=⟨_,rfl⟩
    obtain⟨yE,hyE⟩:∃zx,zx=ds[Jp+1]! :=⟨_,rfl⟩
    have S5:Hid (SB w0 blk off (swp ds (I) (Jp+1)) ((wc.setCell ⟨blk,off+iNE,none⟩ (.int .u8 yE)).setCell ⟨blk,off+jNE,none⟩ (.int .u8 xE)).drew):=hid (by rw [hiNE,hjNE,hxE,hyE];exact sb_swap S4.out R (I) (Jp+1) (by omega) (by omega))
    have caE:wc.cell? ⟨blk,off+iNE,none⟩=some (.int .u8 xE):=by rw [hiNE,hxE];exact sb_cell S4.out R (by omega) (I) (by omega)
    have cbE:wc.cell? ⟨blk,off+jNE,none⟩=some (.int .u8 yE):=by rw [hjNE,hyE];exact sb_cell S4.out R (by omega) (Jp+1) (by omega)
    have faE:wc.frozen? ⟨blk,off+iNE,none⟩=false:=by rw [hiNE];exact SW.f1 S4.out R (by omega) (I) (by omega)
    have fbE:wc.frozen? ⟨blk,off+jNE,none⟩=false:=by rw [hjNE];exact SW.f1 S4.out R (by omega) (Jp+1) (by omega)
    obtain⟨uE,ccE⟩:∃u,(wc.setCell ⟨blk,off+iNE,none⟩ (.int .u8 yE)).cell? ⟨blk,off+jNE,none⟩=some u:=by rw [hiNE,hjNE];exact SW.c2 S4.out R (by omega) (I) (Jp+1) (by omega) (by omega) (.int .u8 yE)
    clear S4 hxE hyE hiNE hjNE
    go_wp2_with fail
    go_region
    clear caE cbE ccE faE fbE
    generalize ((wc.setCell ⟨blk,off+iNE,none⟩ (.int .u8 yE)).setCell ⟨blk,off+jNE,none⟩ (.int .u8 xE)).drew=w5 at S5 ⊢
    clear eiE piE biE riE ejE pjE bjE rjE
    have hsw2:(swp ds I (Jp+1)).size=n:=by rw [size_swp];exact hsw
    obtain⟨dt,hdt⟩:∃dt,dt=swp ds I (Jp+1):=⟨_,rfl⟩
    rw [←hdt]at HLATE S5 hsw2
    clear hdt HI HJ HI2 HJ2 hz hz2 hIJ
    go_wp2_with fail
    go_loopg [10,11] (Jp+1-(I+1)) (fun g1 vi vj wr=>∃(i j:Nat) (dk:Array Int),vi=.int .i64 i∧vj=.int .i64 j∧a<i∧i≤j+1∧j<b∧j+1-i≤g1∧dk.size=n∧Hid (SB w0 blk off dk wr)∧Hid (partLoop ltInt a i j dk=partLoop ltInt a (I+1) Jp dt))
    case atStart=>exact⟨I+1,Jp,dt,by go_num,by go_num,by omega,by omega,by omega,Nat.le_refl _,hsw2,S5,hid rfl⟩
    case round=>
     clear S5 hI1 hI2 hJ1 hJ2 hlt
     obtain⟨i,j,dk,rfl,rfl,hai,hij,hjb,hg1,hsk,S1,HO⟩:=hrel
     go_upto_block 6 with fail
     go_cut [10] (fun vi wx=>∃x:Nat,vi=.int .i64 x∧i≤x∧x≤j+1∧Hid (SB w0 blk off dk wx)∧Hid (scanUp (fun z=>ltInt z dk[a]!) dk j i=x))
     case first=>
      go_wp2_with fail
      go_loopg [10] (j+1-i) (fun g2 vi wr=>∃x:Nat,vi=.int .i64 x∧i≤x∧x≤j+1∧j+1-x≤g2∧Hid (SB w0 blk off dk wr)∧Hid (scanUp (fun z=>ltInt z dk[a]!) dk j i=scanUp (fun z=>ltInt z dk[a]!) dk j x))
      case atStart=>exact⟨i,rfl,by omega,by omega,Nat.le_refl _,S1,hid rfl⟩
      case round=>
       clear S1
       obtain⟨x,rfl,hx1,hx2,hg2,SU,HU⟩:=hrel
       by_cases hle:x≤j
       ·have hg3:decide (x≤j)=true:=by simp;omega
        have hg4:(x:Int)≤(j:Int):=by omega
        cases hlv:ltInt dk[x]! dk[a]! with
        | true =>
         have HN:=hid (HU.out.trans (up_go (p:=fun z=>ltInt z dk[a]!) (by omega) (by simp [hlv])))
         go_wp2_with fail
         obtain⟨iNXg,hiNXg⟩:∃zq,zq=x:=⟨_,rfl⟩
         have eiXg:((x:Int)).toNat=iNXg:=by omega
         have piXg:(0:Int)≤(x:Int):=by omega
         have biXg:(x:Int)<(n:Int):=by omega
         have riXg:IntKind.i64.wrap ((x:Int))=(x:Int):=by rw [IntKind.wrap_i64];omega
         obtain⟨jNXg,hjNXg⟩:∃zq,zq=a:=⟨_,rfl⟩
         have ejXg:((a:Int)).toNat=jNXg:=by omega
         have pjXg:(0:Int)≤(a:Int):=by omega
         have bjXg:(a:Int)<(n:Int):=by omega
         have rjXg:IntKind.i64.wrap ((a:Int))=(a:Int):=by rw [IntKind.wrap_i64];omega
         obtain⟨xXg,hxXg⟩:∃zx,zx=dk[x]! :=⟨_,rfl⟩
         obtain⟨yXg,hyXg⟩:∃zx,zx=dk[a]! :=⟨_,rfl⟩
         have laXg:wr.cell? ⟨blk,off+iNXg,none⟩=some (.int .u8 xXg):=by rw [hiNXg,hxXg];exact sb_cell SU.out R (by omega) (x) (by omega)
         have lbXg:wr.cell? ⟨blk,off+jNXg,none⟩=some (.int .u8 yXg):=by rw [hjNXg,hyXg];exact sb_cell SU.out R (by omega) (a) (by omega)
         have hvXg:ltInt xXg yXg=true:=by rw [hxXg,hyXg];exact hlv
         have HVXg:=hid hvXg
         clear hxXg hyXg hiNXg hjNXg hvXg
         go_wp2_with fail
         go_quiet ((go_at_call 204;exact Calls.quiet_of_same (less_q _ _ _ HVXg.out _)))
         have SL:=hid (SW.drewN SU.out nq)
         clear laXg lbXg HVXg SU
         generalize wr.drewN nq=wl at SL ⊢
         clear nq eiXg piXg biXg riXg ejXg pjXg bjXg rjXg
         go_wp2
         go_roundg (j+1-(x+1))
         case measure=>omega
         case rel=>exact⟨x+1,by go_num,by omega,by omega,Nat.le_refl _,SL,HN⟩
        | false =>
         have HN:=hid (HU.out.trans (up_stop (p:=fun z=>ltInt z dk[a]!) (.inr (by simp [hlv]))))
         go_wp2_with fail
         obtain⟨iNXs,hiNXs⟩:∃zq,zq=x:=⟨_,rfl⟩
         have eiXs:((x:Int)).toNat=iNXs:=by omega
         have piXs:(0:Int)≤(x:Int):=by omega
         have biXs:(x:Int)<(n:Int):=by omega
         have riXs:IntKind.i64.wrap ((x:Int))=(x:Int):=by rw [IntKind.wrap_i64];omega
         obtain⟨jNXs,hjNXs⟩:∃zq,zq=a:=⟨_,rfl⟩
         have ejXs:((a:Int)).toNat=jNXs:=by omega
         have pjXs:(0:Int)≤(a:Int):=by omega
         have bjXs:(a:Int)<(n:Int):=by omega
         have rjXs:IntKind.i64.wrap ((a:Int))=(a:Int):=by rw [IntKind.wrap_i64];omega
         obtain⟨xXs,hxXs⟩:∃zx,zx=dk[x]! :=⟨_,rfl⟩
         obtain⟨yXs,hyXs⟩:∃zx,zx=dk[a]! :=⟨_,rfl⟩
         have laXs:wr.cell? ⟨blk,off+iNXs,none⟩=some (.int .u8 xXs):=by rw [hiNXs,hxXs];exact sb_cell SU.out R (by omega) (x) (by omega)
         have lbXs:wr.cell? ⟨blk,off+jNXs,none⟩=some (.int .u8 yXs):=by rw [hjNXs,hyXs];exact sb_cell SU.out R (by omega) (a) (by omega)
         have hvXs:ltInt xXs yXs=false:=by rw [hxXs,hyXs];exact hlv
         have HVXs:=hid hvXs
         clear hxXs hyXs hiNXs hjNXs hvXs
         go_wp2_with fail
         go_quiet ((go_at_call 204;exact Calls.quiet_of_same (less_q _ _ _ HVXs.out _)))
         have SL:=hid (SW.drewN SU.out nq)
         clear laXs lbXs HVXs SU
         generalize wr.drewN nq=wl at SL ⊢
         clear nq eiXs piXs biXs riXs ejXs pjXs bjXs rjXs
         go_wp2
         go_meet
         case rel=>exact⟨x,by first|rfl|go_num,hx1,hx2,SL,HN⟩
       ·have hg3:decide (x≤j)=false:=by simp;omega
        have hg4:¬(x:Int)≤(j:Int):=by omega
        have HN:=hid (HU.out.trans (up_stop (p:=fun z=>ltInt z dk[a]!) (.inl (by omega))))
        go_wp2_with fail
        go_quiet (fail)
        have SL:=hid (SW.drewN SU.out nq)
        generalize wr.drewN nq=wl at SL ⊢
        go_wp2
        go_meet
        case rel=>exact⟨x,rfl,hx1,hx2,SL,HN⟩
     case rest=>
      clear S1
      obtain⟨I2,rfl,hI21,hI22,S3,HI2⟩:=hcut
      go_upto_block 8 with fail
      go_cut [11] (fun vi wx=>∃x:Nat,vi=.int .i64 x∧I2≤x+1∧x≤j∧Hid (SB w0 blk off dk wx)∧Hid (scanDown (fun z=>!ltInt z dk[a]!) dk I2 j=x))
      case first=>
       go_wp2_with fail
       go_loopg [11] (j) (fun g2 vi wr=>∃x:Nat,vi=.int .i64 x∧I2≤x+1∧x≤j∧x≤g2∧Hid (SB w0 blk off dk wr)∧Hid (scanDown (fun z=>!ltInt z dk[a]!) dk I2 j=scanDown (fun z=>!ltInt z dk[a]!) dk I2 x))
       case atStart=>exact⟨j,rfl,by omega,by omega,Nat.le_refl _,S3,hid rfl⟩
       case round=>
        clear S3
        obtain⟨x,rfl,hx1,hx2,hg2,SU,HU⟩:=hrel
        by_cases hle:I2≤x
        ·obtain⟨xp,rfl⟩:∃xp,x=xp+1:=⟨x-1,by omega⟩
         have hg3:decide (I2≤xp+1)=true:=by simp;omega
         have hg4:(I2:Int)≤(xp:Int)+1:=by omega
         have hg5:decide ((I2:Int)≤(xp:Int)+1)=true:=by simp;omega
         cases hlv:ltInt dk[xp+1]! dk[a]! with
         | false =>
          have HN:=hid (HU.out.trans (down_go (p:=fun z=>!ltInt z dk[a]!) (by omega) (by simp [hlv])))
          go_wp2_with fail
          obtain⟨iNYg,hiNYg⟩:∃zq,zq=xp+1:=⟨_,rfl⟩
          have eiYg:((xp:Int)+1).toNat=iNYg:=by omega
          have piYg:(0:Int)≤(xp:Int)+1:=by omega
          have biYg:(xp:Int)+1<(n:Int):=by omega
          have riYg:IntKind.i64.wrap ((xp:Int)+1)=(xp:Int)+1:=by rw [IntKind.wrap_i64];omega
          obtain⟨jNYg,hjNYg⟩:∃zq,zq=a:=⟨_,rfl⟩
          have ejYg:((a:Int)).toNat=jNYg:=by omega
          have pjYg:(0:Int)≤(a:Int):=by omega
          have bjYg:(a:Int)<(n:Int):=by omega
          have rjYg:IntKind.i64.wrap ((a:Int))=(a:Int):=by rw [IntKind.wrap_i64];omega
          obtain⟨xYg,hxYg⟩:∃zx,zx=dk[xp+1]! :=⟨_,rfl⟩
          obtain⟨yYg,hyYg⟩:∃zx,zx=dk[a]! :=⟨_,rfl⟩
          have laYg:wr.cell? ⟨blk,off+iNYg,none⟩=some (.int .u8 xYg):=by rw [hiNYg,hxYg];exact sb_cell SU.out R (by omega) (xp+1) (by omega)
          have lbYg:wr.cell? ⟨blk,off+jNYg,none⟩=some (.int .u8 yYg):=by rw [hjNYg,hyYg];exact sb_cell SU.out R (by omega) (a) (by omega)
          have hvYg:ltInt xYg yYg=false:=by rw [hxYg,hyYg];exact hlv
          have HVYg:=hid hvYg
          clear hxYg hyYg hiNYg hjNYg hvYg
          go_wp2_with fail
          go_quiet ((go_at_call 204;exact Calls.quiet_of_same (less_q _ _ _ HVYg.out _)))
          have SL:=hid (SW.drewN SU.out nq)
          clear laYg lbYg HVYg SU
          generalize wr.drewN nq=wl at SL ⊢
          clear nq eiYg piYg biYg riYg ejYg pjYg bjYg rjYg
          go_wp2
          go_roundg xp
          case measure=>omega
          case rel=>exact⟨xp,by go_num,by omega,by omega,Nat.le_refl _,SL,HN⟩
         | true =>
          have HN:=hid (HU.out.trans (down_stop (p:=fun z=>!ltInt z dk[a]!) (.inr (by simp [hlv]))))
          go_wp2_with fail
          obtain⟨iNYs,hiNYs⟩:∃zq,zq=xp+1:=⟨_,rfl⟩
          have eiYs:((xp:Int)+1).toNat=iNYs:=by omega
          have piYs:(0:Int)≤(xp:Int)+1:=by omega
          have biYs:(xp:Int)+1<(n:Int):=by omega
          have riYs:IntKind.i64.wrap ((xp:Int)+1)=(xp:Int)+1:=by rw [IntKind.wrap_i64];omega
          obtain⟨jNYs,hjNYs⟩:∃zq,zq=a:=⟨_,rfl⟩
          have ejYs:((a:Int)).toNat=jNYs:=by omega
          have pjYs:(0:Int)≤(a:Int):=by omega
          have bjYs:(a:Int)<(n:Int):=by omega
          have rjYs:IntKind.i64.wrap ((a:Int))=(a:Int):=by rw [IntKind.wrap_i64];omega
          obtain⟨xYs,hxYs⟩:∃zx,zx=dk[xp+1]! :=⟨_,rfl⟩
          obtain⟨yYs,hyYs⟩:∃zx,zx=dk[a]! :=⟨_,rfl⟩
          have laYs:wr.cell? ⟨blk,off+iNYs,none⟩=some (.int .u8 xYs):=by rw [hiNYs,hxYs];exact sb_cell SU.out R (by omega) (xp+1) (by omega)
          have lbYs:wr.cell? ⟨blk,off+jNYs,none⟩=some (.int .u8 yYs):=by rw [hjNYs,hyYs];exact sb_cell SU.out R (by omega) (a) (by omega)
          have hvYs:ltInt xYs yYs=true:=by rw [hxYs,hyYs];exact hlv
          have HVYs:=hid hvYs
          clear hxYs hyYs hiNYs hjNYs hvYs
          go_wp2_with fail
          go_quiet ((go_at_call 204;exact Calls.quiet_of_same (less_q _ _ _ HVYs.out _)))
          have SL:=hid (SW.drewN SU.out nq)
          clear laYs lbYs HVYs SU
          generalize wr.drewN nq=wl at SL ⊢
          clear nq eiYs piYs biYs riYs ejYs pjYs bjYs rjYs
          go_wp2
          go_meet
          case rel=>exact⟨xp+1,by first|rfl|go_num,hx1,hx2,SL,HN⟩
        ·have hg3:decide (I2≤x)=false:=by simp;omega
         have hg4:¬(I2:Int)≤(x:Int):=by omega
         have HN:=hid (HU.out.trans (down_stop (p:=fun z=>!ltInt z dk[a]!) (.inl (by omega))))
         go_wp2_with fail
         go_quiet (fail)
         have SL:=hid (SW.drewN SU.out nq)
         generalize wr.drewN nq=wl at SL ⊢
         go_wp2
         go_meet
         case rel=>exact⟨x,rfl,hx1,hx2,SL,HN⟩
      case rest=>
       clear S3
       obtain⟨J2,rfl,hJ21,hJ22,S4,HJ2⟩:=hcut
       by_cases hIJ:J2<I2
       ·have hz:(J2:Int)<(I2:Int):=by omega
        have hz2:decide (J2<I2)=true:=by simp;omega
        have HPAR:=hid (HLATE.out J2 dk (HO.out.symm.trans (parLoop_end ltInt HI2.out HJ2.out hIJ)))
        go_wp2_with fail
        obtain⟨iNE,hiNE⟩:∃zq,zq=J2:=⟨_,rfl⟩
        have eiE:((J2:Int)).toNat=iNE:=by omega
        have piE:(0:Int)≤(J2:Int):=by omega
        have biE:(J2:Int)<(n:Int):=by omega
        have riE:IntKind.i64.wrap ((J2:Int))=(J2:Int):=by rw [IntKind.wrap_i64];omega
        obtain⟨jNE,hjNE⟩:∃zq,zq=a:=⟨_,rfl⟩
        have ejE:((a:Int)).toNat=jNE:=by omega
        have pjE:(0:Int)≤(a:Int):=by omega
        have bjE:(a:Int)<(n:Int):=by omega
        have rjE:IntKind.i64.wrap ((a:Int))=(a:Int):=by rw [IntKind.wrap_i64];omega
        obtain⟨xE,hxE⟩:∃zx,zx=dk[J2]! :=⟨_,rfl⟩
        obtain⟨yE,hyE⟩:∃zx,zx=dk[a]! :=⟨_,rfl⟩
        have S5:Hid (SB w0 blk off (swp dk (J2) (a)) ((wc.setCell ⟨blk,off+iNE,none⟩ (.int .u8 yE)).setCell ⟨blk,off+jNE,none⟩ (.int .u8 xE)).drew):=hid (by rw [hiNE,hjNE,hxE,hyE];exact sb_swap S4.out R (J2) (a) (by omega) (by omega))
        have caE:wc.cell? ⟨blk,off+iNE,none⟩=some (.int .u8 xE):=by rw [hiNE,hxE];exact sb_cell S4.out R (by omega) (J2) (by omega)
        have cbE:wc.cell? ⟨blk,off+jNE,none⟩=some (.int .u8 yE):=by rw [hjNE,hyE];exact sb_cell S4.out R (by omega) (a) (by omega)
        have faE:wc.frozen? ⟨blk,off+iNE,none⟩=false:=by rw [hiNE];exact SW.f1 S4.out R (by omega) (J2) (by omega)
        have fbE:wc.frozen? ⟨blk,off+jNE,none⟩=false:=by rw [hjNE];exact SW.f1 S4.out R (by omega) (a) (by omega)
        obtain⟨uE,ccE⟩:∃u,(wc.setCell ⟨blk,off+iNE,none⟩ (.int .u8 yE)).cell? ⟨blk,off+jNE,none⟩=some u:=by rw [hiNE,hjNE];exact SW.c2 S4.out R (by omega) (J2) (a) (by omega) (by omega) (.int .u8 yE)
        clear S4 hxE hyE hiNE hjNE
        go_wp2_with fail
        go_region
        clear caE cbE ccE faE fbE
        generalize ((wc.setCell ⟨blk,off+iNE,none⟩ (.int .u8 yE)).setCell ⟨blk,off+jNE,none⟩ (.int .u8 xE)).drew=w5 at S5 ⊢
        clear eiE piE biE riE ejE pjE bjE rjE
        go_wp2
        refine bodyPost_ret (v:=.tuple #[.int .i64 (J2:Int),.bool false]) (by simp [results,Tryz.results206,go_sem]) rfl ?_
        exact⟨J2,false,_,rfl,HPAR.out,S5.out⟩
       ·have hz:¬(J2:Int)<(I2:Int):=by omega
        have hz2:decide (J2<I2)=false:=by simp;omega
        have hlt:=scan_apart (by simp) HI2.out HJ2.out hij (by omega) (by omega:I2≤J2)
        obtain⟨Jp2,rfl⟩:∃Jp2,J2=Jp2+1:=⟨J2-1,by omega⟩
        have HST:=hid ((parLoop_step ltInt HI2.out HJ2.out (by omega)).symm.trans HO.out)
        go_wp2_with fail
        obtain⟨iNW,hiNW⟩:∃zq,zq=I2:=⟨_,rfl⟩
        have eiW:((I2:Int)).toNat=iNW:=by omega
        have piW:(0:Int)≤(I2:Int):=by omega
        have biW:(I2:Int)<(n:Int):=by omega
        have riW:IntKind.i64.wrap ((I2:Int))=(I2:Int):=by rw [IntKind.wrap_i64];omega
        obtain⟨jNW,hjNW⟩:∃zq,zq=Jp2+1:=⟨_,rfl⟩
        have ejW:((Jp2:Int)+1).toNat=jNW:=by omega
        have pjW:(0:Int)≤(Jp2:Int)+1:=by omega
        have bjW:(Jp2:Int)+1<(n:Int):=by omega
        have rjW:IntKind.i64.wrap ((Jp2:Int)+1)=(Jp2:Int)+1:=by rw [IntKind.wrap_i64];omega
        obtain⟨xW,hxW⟩:∃zx,zx=dk[I2]! :=⟨_,rfl⟩
        obtain⟨yW,hyW⟩:∃zx,zx=dk[Jp2+1]! :=⟨_,rfl⟩
        have S5:Hid (SB w0 blk off (swp dk (I2) (Jp2+1)) ((wc.setCell ⟨blk,off+iNW,none⟩ (.int .u8 yW)).setCell ⟨blk,off+jNW,none⟩ (.int .u8 xW)).drew):=hid (by rw [hiNW,hjNW,hxW,hyW];exact sb_swap S4.out R (I2) (Jp2+1) (by omega) (by omega))
        have caW:wc.cell? ⟨blk,off+iNW,none⟩=some (.int .u8 xW):=by rw [hiNW,hxW];exact sb_cell S4.out R (by omega) (I2) (by omega)
        have cbW:wc.cell? ⟨blk,off+jNW,none⟩=some (.int .u8 yW):=by rw [hjNW,hyW];exact sb_cell S4.out R (by omega) (Jp2+1) (by omega)
        have faW:wc.frozen? ⟨blk,off+iNW,none⟩=false:=by rw [hiNW];exact SW.f1 S4.out R (by omega) (I2) (by omega)
        have fbW:wc.frozen? ⟨blk,off+jNW,none⟩=false:=by rw [hjNW];exact SW.f1 S4.out R (by omega) (Jp2+1) (by omega)
        obtain⟨uW,ccW⟩:∃u,(wc.setCell ⟨blk,off+iNW,none⟩ (.int .u8 yW)).cell? ⟨blk,off+jNW,none⟩=some u:=by rw [hiNW,hjNW];exact SW.c2 S4.out R (by omega) (I2) (Jp2+1) (by omega) (by omega) (.int .u8 yW)
        clear S4 hxW hyW hiNW hjNW
        go_wp2_with fail
        go_region
        clear caW cbW ccW faW fbW
        generalize ((wc.setCell ⟨blk,off+iNW,none⟩ (.int .u8 yW)).setCell ⟨blk,off+jNW,none⟩ (.int .u8 xW)).drew=w5 at S5 ⊢
        clear eiW piW biW riW ejW pjW bjW rjW
        go_wp2
        go_roundg (Jp2+1-(I2+1))
        case measure=>omega
        case rel=>exact⟨I2+1,Jp2,swp dk I2 (Jp2+1),by go_num,by go_num,by omega,by omega,by omega,by omega,by rw [size_swp];exact hsk,S5,HST⟩
end
end Go.Proofs.YtecladbckadijaaGreatDoor
