/- MERGED for a claim. -/
import Derived.Test.YtecladbckadijaaGreatDoorIn
import Derived.IntWalk
set_option linter.unusedVariables false
set_option linter.unusedSimpArgs false
set_option maxRecDepth 100000
set_option maxHeartbeats 16000000
namespace Go.Proofs.YtecladbckadijaaGreatDoor
open Go.Lib (hid)
section
open Go.RowKit

def Are (l:List Rg):Prop:=l.length≤6∧Nrm l
noncomputable def areB (l:List Rg):Bool:=@decide (Are l) (Classical.propDecidable _)
theorem areB_yes {l:List Rg}(h:Are l):areB l=true:=@decide_eq_true _ (Classical.propDecidable _) h
theorem areB_no {l:List Rg}(h:¬Are l):areB l=false:=@decide_eq_false _ (Classical.propDecidable _) h
def NextOk (l:List Rg)(k:Nat)(h:k<l.length):Prop:=l[k].ok∧∀(h0:0<k),l[k-1].bef l[k]
theorem nrm_next {l:List Rg}{k:Nat}(hk:k<l.length)(h:Nrm (l.take k))(hn:NextOk l k hk):Nrm (l.take (k+1)):=by
 rw [List.take_succ_eq_append_getElem hk]
 refine nrm_snoc h hn.1 fun z hz=>?_
 obtain⟨j,hj,rfl⟩:=List.getElem_of_mem hz
 rw [List.length_take]at hj
 rw [List.getElem_take]
 have h1:=hn.2 (by omega)
 by_cases e:j=k-1
 ·subst e;exact h1
 ·have hlen:(l.take k).length=k:=by rw [List.length_take];omega
  have:=(List.pairwise_iff_getElem.1 h.1) j (k-1) (by omega) (by omega) (by omega)
  rw [List.getElem_take,List.getElem_take]at this
  exact bef_trans this (by have:=h.2 (l.take k)[k-1] (List.getElem_mem (by omega));rwa [List.getElem_take]at this) h1
theorem nrm_nextOk {l:List Rg}{k:Nat}(hk:k<l.length)(h:Nrm l):NextOk l k hk:=
 ⟨h.2 _ (List.getElem_mem hk),fun h0=>(List.pairwise_iff_getElem.1 h.1) (k-1) k (by omega) hk (by omega)⟩
theorem nextNo {l:List Rg}{k:Nat}(hk:k<l.length)(h:¬NextOk l k hk):areB l=false:=areB_no fun ha=>h (nrm_nextOk hk ha.2)
theorem ok_yes {x:Rg}(h:x.ok)(w:World):Calls Tryz.prog 79 #[.agg #[.int .i64 x.lo,.int .i64 x.hi]] w fun e w'=>e=.returned (.bool true)∧Below w.heap.size w w':=by
 obtain⟨h1,h2,h3⟩:=h
 go_enter Tryz.func79,Tryz.ntmps79
 go_wp2
 go_ret
 exact⟨rfl,below_al (Below.refl _ _) _⟩
theorem ok_no {x:Rg}(h:¬x.ok)(w:World):Calls Tryz.prog 79 #[.agg #[.int .i64 x.lo,.int .i64 x.hi]] w fun e w'=>e=.returned (.bool false)∧Below w.heap.size w w':=by
 by_cases h1:-1000000000≤x.lo
 ·by_cases h2:x.lo≤x.hi
  ·have h3:¬x.hi≤1000000000:=fun h3=>h ⟨h2,h1,h3⟩
   clear h
   go_enter Tryz.func79,Tryz.ntmps79
   go_wp2
   go_ret
   exact⟨rfl,below_al (Below.refl _ _) _⟩
  ·clear h
   go_enter Tryz.func79,Tryz.ntmps79
   go_wp2
   go_ret
   exact⟨rfl,below_al (Below.refl _ _) _⟩
 ·clear h
  go_enter Tryz.func79,Tryz.ntmps79
  go_wp2
  go_ret
  exact⟨rfl,below_al (Below.refl _ _) _⟩
theorem take_prev {l:List Rg}{k:Nat}(h:Nrm (l.take k))(hk:k≤l.length)(h0:0<k):(l[k-1]'(by omega)).ok:=by
 have hl:k-1<(l.take k).length:=by rw [List.length_take];omega
 have:=h.2 (l.take k)[k-1] (List.getElem_mem hl)
 rwa [List.getElem_take]at this
theorem sAre_any (v:Value)(l:List Rg)(w:World)(hv:HasG w v l):
  Calls Tryz.prog 60 #[v] w fun e w'=>e=.returned (.bool (areB l))∧Below w.heap.size w w':=by
 obtain⟨A,cap,rfl,hn',hc⟩:=hv
 obtain⟨n,hnn⟩:∃n,n=l.length:=⟨_,rfl⟩
 have HN:Hid (n=l.length):=hid hnn
 rw [←hnn]at hn' ⊢
 clear hnn
 obtain⟨r,hr⟩:∃r,r=areB l:=⟨_,rfl⟩
 have HR:Hid (r=areB l):=hid hr
 rw [←hr]
 clear hr
 go_enter Tryz.func60,Tryz.ntmps60
 go_wp2
 go_loopw [3] (fun i wr=>∃k:Nat,k≤n∧i=.int .i64 k∧Hid (Nrm (l.take k))∧Below w.heap.size w wr) (fun i _=>n-(intOf i).toNat)
 case atStart=>exact⟨0,Nat.zero_le _,rfl,hid ⟨by simp,by simp⟩,Below.refl _ _⟩
 case round=>
  obtain⟨k,hk,rfl,HP,hbel⟩:=hrel
  by_cases hlt:k<n
  ·have hlk:k<l.length:=by rw [←HN.out];exact hlt
   obtain⟨a,rfl,hab,hcell0⟩:=HasG.gk hc k hlk
   obtain⟨x,hx⟩:∃x,x=l[k]:=⟨_,rfl⟩
   rw [←hx]at hcell0
   obtain⟨c0,c1⟩:=hcell0.below hbel hab
   have HX:=hid hx
   clear hx hcell0
   obtain⟨p,d1,p1,p2,HPV⟩:∃p:Rg,(0<k→wr.cell? ⟨(a.add ((k-1)*2)).block,(a.add ((k-1)*2)).off+1,none⟩=some (.int .i64 p.hi))∧-1000000000≤p.hi∧p.hi≤1000000000∧Hid (∀h0:0<k,p=l[k-1]):=by
    by_cases h0:0<k
    ·obtain⟨a',e',hab',hcell'⟩:=HasG.gk hc (k-1) (by omega)
     cases e'
     have:=take_prev HP.out (by omega) h0
     exact⟨l[k-1],fun _=>(hcell'.below hbel hab').2,by have h1:=this.1;have h2:=this.2.1;omega,this.2.2,hid fun _=>rfl⟩
    ·exact⟨⟨0,0⟩,fun h=>absurd h h0,by simp,by simp,hid fun h=>absurd h h0⟩
   clear hc
   by_cases a1:x.hi<x.lo
   ·have HB:=hid (nextNo hlk (by unfold NextOk Rg.ok;rw [←HX.out];omega))
    go_wp2
    go_quiet (fail)
    go_wp2
    go_ret
    exact⟨ret_bool (by rw [HR.out,HB.out]),below_drewN hbel _⟩
   ·have b1:decide (x.hi<x.lo)=false:=by simpa using a1
    by_cases a2:x.lo < -1000000000
    ·have HB:=hid (nextNo hlk (by unfold NextOk Rg.ok;rw [←HX.out];omega))
     go_wp2
     go_quiet (fail)
     go_wp2
     go_ret
     exact⟨ret_bool (by rw [HR.out,HB.out]),below_drewN hbel _⟩
    ·have b2:decide (x.lo < -1000000000)=false:=by simpa using a2
     by_cases a3:1000000000<x.hi
     ·have HB:=hid (nextNo hlk (by unfold NextOk Rg.ok;rw [←HX.out];omega))
      go_wp2
      go_quiet (fail)
      go_wp2
      go_ret
      exact⟨ret_bool (by rw [HR.out,HB.out]),below_drewN hbel _⟩
     ·have b3:decide (1000000000<x.hi)=false:=by simpa using a3
      have HO:Hid (x.ok):=hid ⟨by omega,by omega,by omega⟩
      by_cases a4:0<k
      ·have e1:=d1 a4
       clear d1
       have hw1:IntKind.i64.wrap ((k:Int)-1)=(k:Int)-1:=IntWalk.i64_in _ (by omega)
       have hw2:IntKind.i64.wrap (p.hi+1)=p.hi+1:=IntWalk.i64_in _ (by omega)
       have h01:0≤(k:Int)-1:=by omega
       have hlt1:(k:Int)-1<(n:Int):=by omega
       have htn:((k:Int)-1).toNat=k-1:=by omega
       have hk0':decide (0<(k:Int))=true:=by simp;omega
       by_cases a5:x.lo≤p.hi+1
       ·have HB:=hid (nextNo hlk (fun h=>by have:=h.2 a4;unfold Rg.bef at this;rw [←HX.out,←HPV.out a4]at this;omega))
        go_wp2
        go_quiet (fail)
        go_wp2
        go_ret
        exact⟨ret_bool (by rw [HR.out,HB.out]),below_drewN hbel _⟩
       ·have HB:=hid (nrm_next hlk HP.out ⟨by rw [←HX.out];exact HO.out,fun h0=>by unfold Rg.bef;rw [←HX.out,←HPV.out a4];omega⟩)
        go_wp2
        go_quiet (fail)
        go_wp2
        go_roundw
        case rel=>exact⟨k+1,by omega,by go_num,HB,below_drewN hbel _⟩
        case measure=>simp [intOf];omega
      ·have hk0':decide (0<(k:Int))=false:=by simp;omega
       have HB:=hid (nrm_next hlk HP.out ⟨by rw [←HX.out];exact HO.out,fun h0=>absurd h0 a4⟩)
       clear d1
       go_wp2
       go_quiet (fail)
       go_wp2
       go_roundw
       case rel=>exact⟨k+1,by omega,by go_num,HB,below_drewN hbel _⟩
       case measure=>simp [intOf];omega
  ·have e:k=n:=by omega
   subst e
   by_cases h6:k≤6
   ·go_wp2
    go_ret
    exact⟨ret_bool (by rw [HR.out,areB_yes ⟨by rw [←HN.out];exact h6,by have:=HP.out;rwa [List.take_of_length_le (by have:=HN.out;omega)]at this⟩];simp;omega),hbel⟩
   ·go_wp2
    go_ret
    exact⟨ret_bool (by rw [HR.out,areB_no fun h=>h6 (by rw [HN.out];exact h.1)];simp;omega),hbel⟩
end
section
open Go.RowKit

theorem iAre_any (v:Value)(l:List Rg)(w:World)(hv:HasG w v l):
  Calls Tryz.prog 40 #[v] w fun e w'=>e=.returned (.bool (areB l))∧Below w.heap.size w w':=by
 obtain⟨A,cap,rfl,hn',hc⟩:=hv
 obtain⟨n,hnn⟩:∃n,n=l.length:=⟨_,rfl⟩
 have HN:Hid (n=l.length):=hid hnn
 rw [←hnn]at hn' ⊢
 clear hnn
 obtain⟨r,hr⟩:∃r,r=areB l:=⟨_,rfl⟩
 have HR:Hid (r=areB l):=hid hr
 rw [←hr]
 clear hr
 by_cases h6:6<n
 ·clear hc
  go_enter Tryz.func40,Tryz.ntmps40
  go_wp2
  go_ret
  exact⟨ret_bool (by rw [HR.out,areB_no fun h=>by have:=h.1;have:=HN.out;omega]),Below.refl _ _⟩
 ·go_enter Tryz.func40,Tryz.ntmps40
  go_wp2
  go_loopw [10] (fun i wr=>∃k:Nat,k≤n∧i=.int .i64 k∧Hid (Nrm (l.take k))∧Below w.heap.size w wr) (fun i _=>n-(intOf i).toNat)
  case atStart=>exact⟨0,Nat.zero_le _,rfl,hid ⟨by simp,by simp⟩,Below.refl _ _⟩
  case round=>
   obtain⟨k,hk,rfl,HP,hbel⟩:=hrel
   by_cases hlt:k<n
   ·have hlk:k<l.length:=by rw [←HN.out];exact hlt
    obtain⟨a,rfl,hab,hcell0⟩:=HasG.gk hc k hlk
    obtain⟨x,hx⟩:∃x,x=l[k]:=⟨_,rfl⟩
    rw [←hx]at hcell0
    obtain⟨c0,c1⟩:=hcell0.below hbel hab
    have HX:=hid hx
    clear hx hcell0
    obtain⟨p,d1,p1,p2,HPV⟩:∃p:Rg,(0<k→(a.add ((k-1)*2)).block<w.heap.size∧wr.cell? ⟨(a.add ((k-1)*2)).block,(a.add ((k-1)*2)).off+1,none⟩=some (.int .i64 p.hi))∧-1000000000≤p.hi∧p.hi≤1000000000∧Hid (∀h0:0<k,p=l[k-1]):=by
     by_cases h0:0<k
     ·obtain⟨a',e',hab',hcell'⟩:=HasG.gk hc (k-1) (by omega)
      cases e'
      have:=take_prev HP.out (by omega) h0
      exact⟨l[k-1],fun _=>⟨hab',(hcell'.below hbel hab').2⟩,by have h1:=this.1;have h2:=this.2.1;omega,this.2.2,hid fun _=>rfl⟩
     ·exact⟨⟨0,0⟩,fun h=>absurd h h0,by simp,by simp,hid fun h=>absurd h h0⟩
    clear hc
    have hb0:Below w.heap.size w (wr.alloc (.cells #[.int .i64 x.lo,.int .i64 x.hi] 80)):=below_al hbel _
    by_cases ho:x.ok
    ·have HO:=hid ho
     clear ho
     by_cases a4:0<k
     ·obtain⟨e0,e1⟩:=d1 a4
      clear d1
      have hw1:IntKind.i64.wrap ((k:Int)-1)=(k:Int)-1:=IntWalk.i64_in _ (by omega)
      have hw2:IntKind.i64.wrap (p.hi+2)=p.hi+2:=IntWalk.i64_in _ (by omega)
      have h01:0≤(k:Int)-1:=by omega
      have hlt1:(k:Int)-1<(n:Int):=by omega
      have htn:((k:Int)-1).toNat=k-1:=by omega
      have hk1:(1:Int)≤(k:Int):=by omega
      have hkn:(k:Int)≤(n:Int):=by omega
      have hki:(0:Int)<(k:Int):=by omega
      have hk0':decide (0<(k:Int))=true:=by simp;omega
      have HK:Hid (∀w',Below (wr.alloc (.cells #[.int .i64 x.lo,.int .i64 x.hi] 80)).heap.size (wr.alloc (.cells #[.int .i64 x.lo,.int .i64 x.hi] 80)) w'→(w'.cell? ⟨wr.heap.size,0,none⟩=some (.int .i64 x.lo)∧w'.cell? ⟨wr.heap.size,1,none⟩=some (.int .i64 x.hi)∧w'.cell? ⟨(a.add ((k-1)*2)).block,(a.add ((k-1)*2)).off+1,none⟩=some (.int .i64 p.hi))∧Below (wr.alloc (.cells #[.int .i64 x.lo,.int .i64 x.hi] 80)).heap.size (wr.alloc (.cells #[.int .i64 x.lo,.int .i64 x.hi] 80)) w'):=hid fun w' h=>⟨⟨(box2 h).1,(box2 h).2,by rw [((below_al (Below.refl wr.heap.size wr) _).trans (h.mono (by simp))).cell (p:=⟨(a.add ((k-1)*2)).block,(a.add ((k-1)*2)).off+1,none⟩) (Nat.lt_of_lt_of_le e0 hbel.size)];exact e1⟩,h⟩
      clear e1
      by_cases a5:x.lo<p.hi+2
      ·have HB:=hid (nextNo hlk (fun h=>by have:=h.2 a4;unfold Rg.bef at this;rw [←HX.out,←HPV.out a4]at this;omega))
       go_wp2
       go_region_held3 (fun w'=>(w'.cell? ⟨wr.heap.size,0,none⟩=some (.int .i64 x.lo)∧w'.cell? ⟨wr.heap.size,1,none⟩=some (.int .i64 x.hi)∧w'.cell? ⟨(a.add ((k-1)*2)).block,(a.add ((k-1)*2)).off+1,none⟩=some (.int .i64 p.hi))∧Below (wr.alloc (.cells #[.int .i64 x.lo,.int .i64 x.hi] 80)).heap.size (wr.alloc (.cells #[.int .i64 x.lo,.int .i64 x.hi] 80)) w') (first|exact HK.out _ (Below.refl _ _).drew|exact HK.out _ (below_step (by assumption:_∧Below _ _ _).2 hbm)|assumption|go_keep) (first|(go_at_call 79;refine(ok_yes HO.out _).mono ?_;rintro e w1 ⟨rfl,hbm⟩))
       have hB2:=hb0.trans ((by assumption:_∧Below (wr.alloc (.cells #[.int .i64 x.lo,.int .i64 x.hi] 80)).heap.size _ _).2.mono hb0.size)
       go_wp2
       go_ret
       exact⟨ret_bool (by rw [HR.out,HB.out]),hB2⟩
      ·have HB:=hid (nrm_next hlk HP.out ⟨by rw [←HX.out];exact HO.out,fun h0=>by unfold Rg.bef;rw [←HX.out,←HPV.out a4];omega⟩)
       go_wp2
       go_region_held3 (fun w'=>(w'.cell? ⟨wr.heap.size,0,none⟩=some (.int .i64 x.lo)∧w'.cell? ⟨wr.heap.size,1,none⟩=some (.int .i64 x.hi)∧w'.cell? ⟨(a.add ((k-1)*2)).block,(a.add ((k-1)*2)).off+1,none⟩=some (.int .i64 p.hi))∧Below (wr.alloc (.cells #[.int .i64 x.lo,.int .i64 x.hi] 80)).heap.size (wr.alloc (.cells #[.int .i64 x.lo,.int .i64 x.hi] 80)) w') (first|exact HK.out _ (Below.refl _ _).drew|exact HK.out _ (below_step (by assumption:_∧Below _ _ _).2 hbm)|assumption|go_keep) (first|(go_at_call 79;refine(ok_yes HO.out _).mono ?_;rintro e w1 ⟨rfl,hbm⟩))
       have hB2:=hb0.trans ((by assumption:_∧Below (wr.alloc (.cells #[.int .i64 x.lo,.int .i64 x.hi] 80)).heap.size _ _).2.mono hb0.size)
       go_wp2
       go_roundw
       case rel=>exact⟨k+1,by omega,by go_num,HB,hB2⟩
       case measure=>simp [intOf];omega
     ·have HB:=hid (nrm_next hlk HP.out ⟨by rw [←HX.out];exact HO.out,fun h0=>absurd h0 a4⟩)
      clear d1
      obtain rfl:k=0:=by omega
      have c0':wr.cell? a=some (.int .i64 x.lo):=c0
      have c1':wr.cell? ⟨a.block,a.off+1,none⟩=some (.int .i64 x.hi):=c1
      have HK:Hid (∀w',Below (wr.alloc (.cells #[.int .i64 x.lo,.int .i64 x.hi] 80)).heap.size (wr.alloc (.cells #[.int .i64 x.lo,.int .i64 x.hi] 80)) w'→(w'.cell? ⟨wr.heap.size,0,none⟩=some (.int .i64 x.lo)∧w'.cell? ⟨wr.heap.size,1,none⟩=some (.int .i64 x.hi))∧Below (wr.alloc (.cells #[.int .i64 x.lo,.int .i64 x.hi] 80)).heap.size (wr.alloc (.cells #[.int .i64 x.lo,.int .i64 x.hi] 80)) w'):=hid fun w' h=>⟨box2 h,h⟩
      go_wp2
      refine wp_region_held_drew (S:=fun w'=>(w'.cell? ⟨wr.heap.size,0,none⟩=some (.int .i64 x.lo)∧w'.cell? ⟨wr.heap.size,1,none⟩=some (.int .i64 x.hi))∧Below (wr.alloc (.cells #[.int .i64 x.lo,.int .i64 x.hi] 80)).heap.size (wr.alloc (.cells #[.int .i64 x.lo,.int .i64 x.hi] 80)) w') (by kernel_rfl) (HK.out _ (Below.refl _ _).drew) (fun hHeld=>?_)
      refine wpAnyH_take (i:=0) (oi:={ dst:=some 15,op:=Op.load 80 (Operand.tmp 4),type:=80,pos:=_,after:=#[],guard:=none }) (v:=?v0) rfl (by kernel_rfl) (by kernel_rfl) (by kernel_rfl) (fun _ _ _ h=>h) (Or.inl ⟨by rfl,?hy0⟩) (by assumption) ?rest0
      case hy0=>((intro w hSw;(try dsimp only at hSw);go_simp);try with_reducible rfl)
      case' rest0=>(try simp only [Act.put,List.setIfInBounds_toArray,List.set_cons_zero,List.set_cons_succ])
      refine wpAnyH_ready (rs:=[1]) (by kernel_rfl) (by simp) ?_
      refine AllReadyH.cons (o:={ dst:=some 16,op:=Op.call { callee:=Callee.value (Operand.func 79),args:=#[Operand.tmp 15],argTypes:=#[80] },type:=4,pos:=_,after:=#[{ on:=0,ground:=Ground.data }],guard:=none }) rfl (fun K hK=>?_) AllReadyH.nil
      go_simp
      refine(ok_yes HO.out _).mono ?_
      rintro e w1 ⟨rfl,hbm⟩
      refine hK.out _ _ (HK.out _ (below_step hHeld.2 hbm)) (fun hHeld2=>?_)
      clear hK K hHeld
      try simp only [Act.put,List.setIfInBounds_toArray,List.set_cons_zero,List.set_cons_succ]
      refine wpAnyH_take (i:=2) (oi:={ dst:=some 17,op:=Op.unOp UnOp.not 4 (Operand.tmp 16),type:=4,pos:=_,after:=#[{ on:=1,ground:=Ground.data }],guard:=none }) (v:=?v2) rfl (by kernel_rfl) (by kernel_rfl) (by kernel_rfl) (fun _ _ _ h=>h) (Or.inl ⟨by rfl,?hy2⟩) (by assumption) ?rest2
      case hy2=>((intro w hSw;(try dsimp only at hSw);go_simp);try with_reducible rfl)
      case' rest2=>(try simp only [Act.put,List.setIfInBounds_toArray,List.set_cons_zero,List.set_cons_succ])
      refine wpAnyH_take (i:=3) (oi:={ dst:=some 18,op:=Op.move (Operand.tmp 17),type:=4,pos:=_,after:=#[{ on:=2,ground:=Ground.data },{ on:=1,ground:=Ground.chain }],guard:=none }) (v:=?v3) rfl (by kernel_rfl) (by kernel_rfl) (by kernel_rfl) (fun _ _ _ h=>h) (Or.inl ⟨by rfl,?hy3⟩) (by assumption) ?rest3
      case hy3=>((intro w hSw;(try dsimp only at hSw);go_simp);try with_reducible rfl)
      case' rest3=>(try simp only [Act.put,List.setIfInBounds_toArray,List.set_cons_zero,List.set_cons_succ])
      refine wpAnyH_take (i:=4) (oi:={ dst:=some 19,op:=Op.move (Operand.tmp 3),type:=3,pos:=_,after:=#[{ on:=3,ground:=Ground.guard }],guard:=some (3,false) }) (v:=?v4) rfl (by kernel_rfl) (by kernel_rfl) (by kernel_rfl) (fun _ _ _ h=>h) (Or.inl ⟨by rfl,?hy4⟩) (by assumption) ?rest4
      case hy4=>((intro w hSw;(try dsimp only at hSw);go_simp);try with_reducible rfl)
      case' rest4=>(try simp only [Act.put,List.setIfInBounds_toArray,List.set_cons_zero,List.set_cons_succ])
      refine wpAnyH_take (i:=5) (oi:={ dst:=some 20,op:=Op.binOp BinOp.gtr 3 (Operand.tmp 19) (Operand.const (Value.int IntKind.i64 0)) 3,type:=4,pos:=_,after:=#[{ on:=4,ground:=Ground.data },{ on:=3,ground:=Ground.guard }],guard:=some (3,false) }) (v:=?v5) rfl (by kernel_rfl) (by kernel_rfl) (by kernel_rfl) (fun _ _ _ h=>h) (Or.inl ⟨by rfl,?hy5⟩) (by assumption) ?rest5
      case hy5=>((intro w hSw;(try dsimp only at hSw);go_simp);try with_reducible rfl)
      case' rest5=>(try simp only [Act.put,List.setIfInBounds_toArray,List.set_cons_zero,List.set_cons_succ])
      refine wpAnyH_take (i:=6) (oi:={ dst:=some 21,op:=Op.move (Operand.tmp 20),type:=4,pos:=_,after:=#[{ on:=5,ground:=Ground.data },{ on:=3,ground:=Ground.chain },{ on:=3,ground:=Ground.guard }],guard:=some (3,false) }) (v:=?v6) rfl (by kernel_rfl) (by kernel_rfl) (by kernel_rfl) (fun _ _ _ h=>h) (Or.inl ⟨by rfl,?hy6⟩) (by assumption) ?rest6
      case hy6=>((intro w hSw;(try dsimp only at hSw);go_simp);try with_reducible rfl)
      case' rest6=>(try simp only [Act.put,List.setIfInBounds_toArray,List.set_cons_zero,List.set_cons_succ])
      refine wpAnyH_take (i:=7) (oi:={ dst:=some 22,op:=Op.fieldAddr 80 (Operand.tmp 4) 0,type:=0,pos:=_,after:=#[{ on:=6,ground:=Ground.guard }],guard:=some (6,true) }) (v:=undef) rfl (by kernel_rfl) (by kernel_rfl) (by kernel_rfl) (fun _ _ _ h=>h) (Or.inr ⟨by rfl,rfl⟩) (by assumption) ?_
      try simp only [Act.put,List.setIfInBounds_toArray,List.set_cons_zero,List.set_cons_succ]
      refine wpAnyH_take (i:=8) (oi:={ dst:=some 23,op:=Op.load 3 (Operand.tmp 22),type:=3,pos:=_,after:=#[{ on:=7,ground:=Ground.data },{ on:=6,ground:=Ground.guard }],guard:=some (6,true) }) (v:=undef) rfl (by kernel_rfl) (by kernel_rfl) (by kernel_rfl) (fun _ _ _ h=>h) (Or.inr ⟨by rfl,rfl⟩) (by assumption) ?_
      try simp only [Act.put,List.setIfInBounds_toArray,List.set_cons_zero,List.set_cons_succ]
      refine wpAnyH_take (i:=9) (oi:={ dst:=some 24,op:=Op.move (Operand.tmp 0),type:=24,pos:=_,after:=#[{ on:=6,ground:=Ground.guard }],guard:=some (6,true) }) (v:=undef) rfl (by kernel_rfl) (by kernel_rfl) (by kernel_rfl) (fun _ _ _ h=>h) (Or.inr ⟨by rfl,rfl⟩) (by assumption) ?_
      try simp only [Act.put,List.setIfInBounds_toArray,List.set_cons_zero,List.set_cons_succ]
      refine wpAnyH_take (i:=10) (oi:={ dst:=some 25,op:=Op.move (Operand.tmp 3),type:=3,pos:=_,after:=#[{ on:=6,ground:=Ground.guard }],guard:=some (6,true) }) (v:=undef) rfl (by kernel_rfl) (by kernel_rfl) (by kernel_rfl) (fun _ _ _ h=>h) (Or.inr ⟨by rfl,rfl⟩) (by assumption) ?_
      try simp only [Act.put,List.setIfInBounds_toArray,List.set_cons_zero,List.set_cons_succ]
      refine wpAnyH_take (i:=11) (oi:={ dst:=some 26,op:=Op.binOp BinOp.sub 3 (Operand.tmp 25) (Operand.const (Value.int IntKind.i64 1)) 3,type:=3,pos:=_,after:=#[{ on:=10,ground:=Ground.data },{ on:=6,ground:=Ground.guard }],guard:=some (6,true) }) (v:=undef) rfl (by kernel_rfl) (by kernel_rfl) (by kernel_rfl) (fun _ _ _ h=>h) (Or.inr ⟨by rfl,rfl⟩) (by assumption) ?_
      try simp only [Act.put,List.setIfInBounds_toArray,List.set_cons_zero,List.set_cons_succ]
      refine wpAnyH_take (i:=12) (oi:={ dst:=some 27,op:=Op.indexAddr 24 (Operand.tmp 24) (Operand.tmp 26),type:=0,pos:=_,after:=#[{ on:=9,ground:=Ground.data },{ on:=11,ground:=Ground.data },{ on:=6,ground:=Ground.guard }],guard:=some (6,true) }) (v:=undef) rfl (by kernel_rfl) (by kernel_rfl) (by kernel_rfl) (fun _ _ _ h=>h) (Or.inr ⟨by rfl,rfl⟩) (by assumption) ?_
      try simp only [Act.put,List.setIfInBounds_toArray,List.set_cons_zero,List.set_cons_succ]
      refine wpAnyH_take (i:=13) (oi:={ dst:=some 28,op:=Op.fieldAddr 80 (Operand.tmp 27) 1,type:=0,pos:=_,after:=#[{ on:=12,ground:=Ground.data },{ on:=6,ground:=Ground.guard }],guard:=some (6,true) }) (v:=undef) rfl (by kernel_rfl) (by kernel_rfl) (by kernel_rfl) (fun _ _ _ h=>h) (Or.inr ⟨by rfl,rfl⟩) (by assumption) ?_
      try simp only [Act.put,List.setIfInBounds_toArray,List.set_cons_zero,List.set_cons_succ]
      refine wpAnyH_take (i:=14) (oi:={ dst:=some 29,op:=Op.load 3 (Operand.tmp 28),type:=3,pos:=_,after:=#[{ on:=13,ground:=Ground.data },{ on:=6,ground:=Ground.guard }],guard:=some (6,true) }) (v:=undef) rfl (by kernel_rfl) (by kernel_rfl) (by kernel_rfl) (fun _ _ _ h=>h) (Or.inr ⟨by rfl,rfl⟩) (by assumption) ?_
      try simp only [Act.put,List.setIfInBounds_toArray,List.set_cons_zero,List.set_cons_succ]
      refine wpAnyH_take (i:=15) (oi:={ dst:=some 30,op:=Op.binOp BinOp.add 3 (Operand.tmp 29) (Operand.const (Value.int IntKind.i64 2)) 3,type:=3,pos:=_,after:=#[{ on:=14,ground:=Ground.data },{ on:=6,ground:=Ground.guard }],guard:=some (6,true) }) (v:=undef) rfl (by kernel_rfl) (by kernel_rfl) (by kernel_rfl) (fun _ _ _ h=>h) (Or.inr ⟨by rfl,rfl⟩) (by assumption) ?_
      try simp only [Act.put,List.setIfInBounds_toArray,List.set_cons_zero,List.set_cons_succ]
      refine wpAnyH_take (i:=16) (oi:={ dst:=some 31,op:=Op.binOp BinOp.lss 3 (Operand.tmp 23) (Operand.tmp 30) 3,type:=4,pos:=_,after:=#[{ on:=8,ground:=Ground.data },{ on:=15,ground:=Ground.data },{ on:=6,ground:=Ground.guard }],guard:=some (6,true) }) (v:=undef) rfl (by kernel_rfl) (by kernel_rfl) (by kernel_rfl) (fun _ _ _ h=>h) (Or.inr ⟨by rfl,rfl⟩) (by assumption) ?_
      try simp only [Act.put,List.setIfInBounds_toArray,List.set_cons_zero,List.set_cons_succ]
      refine wpAnyH_take (i:=17) (oi:={ dst:=some 32,op:=Op.pick (Operand.tmp 21) (Operand.tmp 31) (Operand.const (Value.bool false)),type:=4,pos:=_,after:=#[{ on:=6,ground:=Ground.data },{ on:=16,ground:=Ground.data },{ on:=3,ground:=Ground.guard }],guard:=some (3,false) }) (v:=?v17) rfl (by kernel_rfl) (by kernel_rfl) (by kernel_rfl) (fun _ _ _ h=>h) (Or.inl ⟨by rfl,?hy17⟩) (by assumption) ?rest17
      case hy17=>((intro w hSw;(try dsimp only at hSw);go_simp);try with_reducible rfl)
      case' rest17=>(try simp only [Act.put,List.setIfInBounds_toArray,List.set_cons_zero,List.set_cons_succ])
      refine wpAnyH_take (i:=18) (oi:={ dst:=some 33,op:=Op.pick (Operand.tmp 18) (Operand.const (Value.bool true)) (Operand.tmp 32),type:=4,pos:=_,after:=#[{ on:=3,ground:=Ground.data },{ on:=17,ground:=Ground.data }],guard:=none }) (v:=?v18) rfl (by kernel_rfl) (by kernel_rfl) (by kernel_rfl) (fun _ _ _ h=>h) (Or.inl ⟨by rfl,?hy18⟩) (by assumption) ?rest18
      case hy18=>((intro w hSw;(try dsimp only at hSw);go_simp);try with_reducible rfl)
      case' rest18=>(try simp only [Act.put,List.setIfInBounds_toArray,List.set_cons_zero,List.set_cons_succ])
      refine wpAnyH_done (by kernel_rfl) ?_ _
      have hB2:=hb0.trans (hHeld2.2.mono hb0.size)
      go_wp2
      go_roundw
      case rel=>exact⟨0+1,by omega,by go_num,HB,hB2⟩
      case measure=>simp [intOf];omega
    ·have HO:=hid ho
     have HB:=hid (nextNo hlk (fun h=>by have:=h.1;rw [←HX.out]at this;exact ho this))
     clear ho d1
     have HK:Hid (∀w',Below (wr.alloc (.cells #[.int .i64 x.lo,.int .i64 x.hi] 80)).heap.size (wr.alloc (.cells #[.int .i64 x.lo,.int .i64 x.hi] 80)) w'→(w'.cell? ⟨wr.heap.size,0,none⟩=some (.int .i64 x.lo)∧w'.cell? ⟨wr.heap.size,1,none⟩=some (.int .i64 x.hi))∧Below (wr.alloc (.cells #[.int .i64 x.lo,.int .i64 x.hi] 80)).heap.size (wr.alloc (.cells #[.int .i64 x.lo,.int .i64 x.hi] 80)) w'):=hid fun w' h=>⟨box2 h,h⟩
     go_wp2
     refine wp_region_held_drew (S:=fun w'=>(w'.cell? ⟨wr.heap.size,0,none⟩=some (.int .i64 x.lo)∧w'.cell? ⟨wr.heap.size,1,none⟩=some (.int .i64 x.hi))∧Below (wr.alloc (.cells #[.int .i64 x.lo,.int .i64 x.hi] 80)).heap.size (wr.alloc (.cells #[.int .i64 x.lo,.int .i64 x.hi] 80)) w') (by kernel_rfl) (HK.out _ (Below.refl _ _).drew) (fun hHeld=>?_)
     refine wpAnyH_take (i:=0) (oi:={ dst:=some 15,op:=Op.load 80 (Operand.tmp 4),type:=80,pos:=_,after:=#[],guard:=none }) (v:=?vb0) rfl (by kernel_rfl) (by kernel_rfl) (by kernel_rfl) (fun _ _ _ h=>h) (Or.inl ⟨by rfl,?hyb0⟩) (by assumption) ?restb0
     case hyb0=>((intro w hSw;(try dsimp only at hSw);go_simp);try with_reducible rfl)
     case' restb0=>(try simp only [Act.put,List.setIfInBounds_toArray,List.set_cons_zero,List.set_cons_succ])
     refine wpAnyH_ready (rs:=[1]) (by kernel_rfl) (by simp) ?_
     refine AllReadyH.cons (o:={ dst:=some 16,op:=Op.call { callee:=Callee.value (Operand.func 79),args:=#[Operand.tmp 15],argTypes:=#[80] },type:=4,pos:=_,after:=#[{ on:=0,ground:=Ground.data }],guard:=none }) rfl (fun K hK=>?_) AllReadyH.nil
     go_simp
     refine(ok_no HO.out _).mono ?_
     rintro e w1 ⟨rfl,hbm⟩
     refine hK.out _ _ (HK.out _ (below_step hHeld.2 hbm)) (fun hHeld2=>?_)
     clear hK K hHeld
     try simp only [Act.put,List.setIfInBounds_toArray,List.set_cons_zero,List.set_cons_succ]
     refine wpAnyH_take (i:=2) (oi:={ dst:=some 17,op:=Op.unOp UnOp.not 4 (Operand.tmp 16),type:=4,pos:=_,after:=#[{ on:=1,ground:=Ground.data }],guard:=none }) (v:=?vb2) rfl (by kernel_rfl) (by kernel_rfl) (by kernel_rfl) (fun _ _ _ h=>h) (Or.inl ⟨by rfl,?hyb2⟩) (by assumption) ?restb2
     case hyb2=>((intro w hSw;(try dsimp only at hSw);go_simp);try with_reducible rfl)
     case' restb2=>(try simp only [Act.put,List.setIfInBounds_toArray,List.set_cons_zero,List.set_cons_succ])
     refine wpAnyH_take (i:=3) (oi:={ dst:=some 18,op:=Op.move (Operand.tmp 17),type:=4,pos:=_,after:=#[{ on:=2,ground:=Ground.data },{ on:=1,ground:=Ground.chain }],guard:=none }) (v:=?vb3) rfl (by kernel_rfl) (by kernel_rfl) (by kernel_rfl) (fun _ _ _ h=>h) (Or.inl ⟨by rfl,?hyb3⟩) (by assumption) ?restb3
     case hyb3=>((intro w hSw;(try dsimp only at hSw);go_simp);try with_reducible rfl)
     case' restb3=>(try simp only [Act.put,List.setIfInBounds_toArray,List.set_cons_zero,List.set_cons_succ])
     refine wpAnyH_take (i:=4) (oi:={ dst:=some 19,op:=Op.move (Operand.tmp 3),type:=3,pos:=_,after:=#[{ on:=3,ground:=Ground.guard }],guard:=some (3,false) }) (v:=undef) rfl (by kernel_rfl) (by kernel_rfl) (by kernel_rfl) (fun _ _ _ h=>h) (Or.inr ⟨by rfl,rfl⟩) (by assumption) ?_
     try simp only [Act.put,List.setIfInBounds_toArray,List.set_cons_zero,List.set_cons_succ]
     refine wpAnyH_take (i:=5) (oi:={ dst:=some 20,op:=Op.binOp BinOp.gtr 3 (Operand.tmp 19) (Operand.const (Value.int IntKind.i64 0)) 3,type:=4,pos:=_,after:=#[{ on:=4,ground:=Ground.data },{ on:=3,ground:=Ground.guard }],guard:=some (3,false) }) (v:=undef) rfl (by kernel_rfl) (by kernel_rfl) (by kernel_rfl) (fun _ _ _ h=>h) (Or.inr ⟨by rfl,rfl⟩) (by assumption) ?_
     try simp only [Act.put,List.setIfInBounds_toArray,List.set_cons_zero,List.set_cons_succ]
     refine wpAnyH_take (i:=6) (oi:={ dst:=some 21,op:=Op.move (Operand.tmp 20),type:=4,pos:=_,after:=#[{ on:=5,ground:=Ground.data },{ on:=3,ground:=Ground.chain },{ on:=3,ground:=Ground.guard }],guard:=some (3,false) }) (v:=undef) rfl (by kernel_rfl) (by kernel_rfl) (by kernel_rfl) (fun _ _ _ h=>h) (Or.inr ⟨by rfl,rfl⟩) (by assumption) ?_
     try simp only [Act.put,List.setIfInBounds_toArray,List.set_cons_zero,List.set_cons_succ]
     refine wpAnyH_take (i:=7) (oi:={ dst:=some 22,op:=Op.fieldAddr 80 (Operand.tmp 4) 0,type:=0,pos:=_,after:=#[{ on:=6,ground:=Ground.guard }],guard:=some (6,true) }) (v:=undef) rfl (by kernel_rfl) (by kernel_rfl) (by kernel_rfl) (fun _ _ _ h=>h) (Or.inr ⟨by rfl,rfl⟩) (by assumption) ?_
     try simp only [Act.put,List.setIfInBounds_toArray,List.set_cons_zero,List.set_cons_succ]
     refine wpAnyH_take (i:=8) (oi:={ dst:=some 23,op:=Op.load 3 (Operand.tmp 22),type:=3,pos:=_,after:=#[{ on:=7,ground:=Ground.data },{ on:=6,ground:=Ground.guard }],guard:=some (6,true) }) (v:=undef) rfl (by kernel_rfl) (by kernel_rfl) (by kernel_rfl) (fun _ _ _ h=>h) (Or.inr ⟨by rfl,rfl⟩) (by assumption) ?_
     try simp only [Act.put,List.setIfInBounds_toArray,List.set_cons_zero,List.set_cons_succ]
     refine wpAnyH_take (i:=9) (oi:={ dst:=some 24,op:=Op.move (Operand.tmp 0),type:=24,pos:=_,after:=#[{ on:=6,ground:=Ground.guard }],guard:=some (6,true) }) (v:=undef) rfl (by kernel_rfl) (by kernel_rfl) (by kernel_rfl) (fun _ _ _ h=>h) (Or.inr ⟨by rfl,rfl⟩) (by assumption) ?_
     try simp only [Act.put,List.setIfInBounds_toArray,List.set_cons_zero,List.set_cons_succ]
     refine wpAnyH_take (i:=10) (oi:={ dst:=some 25,op:=Op.move (Operand.tmp 3),type:=3,pos:=_,after:=#[{ on:=6,ground:=Ground.guard }],guard:=some (6,true) }) (v:=undef) rfl (by kernel_rfl) (by kernel_rfl) (by kernel_rfl) (fun _ _ _ h=>h) (Or.inr ⟨by rfl,rfl⟩) (by assumption) ?_
     try simp only [Act.put,List.setIfInBounds_toArray,List.set_cons_zero,List.set_cons_succ]
     refine wpAnyH_take (i:=11) (oi:={ dst:=some 26,op:=Op.binOp BinOp.sub 3 (Operand.tmp 25) (Operand.const (Value.int IntKind.i64 1)) 3,type:=3,pos:=_,after:=#[{ on:=10,ground:=Ground.data },{ on:=6,ground:=Ground.guard }],guard:=some (6,true) }) (v:=undef) rfl (by kernel_rfl) (by kernel_rfl) (by kernel_rfl) (fun _ _ _ h=>h) (Or.inr ⟨by rfl,rfl⟩) (by assumption) ?_
     try simp only [Act.put,List.setIfInBounds_toArray,List.set_cons_zero,List.set_cons_succ]
     refine wpAnyH_take (i:=12) (oi:={ dst:=some 27,op:=Op.indexAddr 24 (Operand.tmp 24) (Operand.tmp 26),type:=0,pos:=_,after:=#[{ on:=9,ground:=Ground.data },{ on:=11,ground:=Ground.data },{ on:=6,ground:=Ground.guard }],guard:=some (6,true) }) (v:=undef) rfl (by kernel_rfl) (by kernel_rfl) (by kernel_rfl) (fun _ _ _ h=>h) (Or.inr ⟨by rfl,rfl⟩) (by assumption) ?_
     try simp only [Act.put,List.setIfInBounds_toArray,List.set_cons_zero,List.set_cons_succ]
     refine wpAnyH_take (i:=13) (oi:={ dst:=some 28,op:=Op.fieldAddr 80 (Operand.tmp 27) 1,type:=0,pos:=_,after:=#[{ on:=12,ground:=Ground.data },{ on:=6,ground:=Ground.guard }],guard:=some (6,true) }) (v:=undef) rfl (by kernel_rfl) (by kernel_rfl) (by kernel_rfl) (fun _ _ _ h=>h) (Or.inr ⟨by rfl,rfl⟩) (by assumption) ?_
     try simp only [Act.put,List.setIfInBounds_toArray,List.set_cons_zero,List.set_cons_succ]
     refine wpAnyH_take (i:=14) (oi:={ dst:=some 29,op:=Op.load 3 (Operand.tmp 28),type:=3,pos:=_,after:=#[{ on:=13,ground:=Ground.data },{ on:=6,ground:=Ground.guard }],guard:=some (6,true) }) (v:=undef) rfl (by kernel_rfl) (by kernel_rfl) (by kernel_rfl) (fun _ _ _ h=>h) (Or.inr ⟨by rfl,rfl⟩) (by assumption) ?_
     try simp only [Act.put,List.setIfInBounds_toArray,List.set_cons_zero,List.set_cons_succ]
     refine wpAnyH_take (i:=15) (oi:={ dst:=some 30,op:=Op.binOp BinOp.add 3 (Operand.tmp 29) (Operand.const (Value.int IntKind.i64 2)) 3,type:=3,pos:=_,after:=#[{ on:=14,ground:=Ground.data },{ on:=6,ground:=Ground.guard }],guard:=some (6,true) }) (v:=undef) rfl (by kernel_rfl) (by kernel_rfl) (by kernel_rfl) (fun _ _ _ h=>h) (Or.inr ⟨by rfl,rfl⟩) (by assumption) ?_
     try simp only [Act.put,List.setIfInBounds_toArray,List.set_cons_zero,List.set_cons_succ]
     refine wpAnyH_take (i:=16) (oi:={ dst:=some 31,op:=Op.binOp BinOp.lss 3 (Operand.tmp 23) (Operand.tmp 30) 3,type:=4,pos:=_,after:=#[{ on:=8,ground:=Ground.data },{ on:=15,ground:=Ground.data },{ on:=6,ground:=Ground.guard }],guard:=some (6,true) }) (v:=undef) rfl (by kernel_rfl) (by kernel_rfl) (by kernel_rfl) (fun _ _ _ h=>h) (Or.inr ⟨by rfl,rfl⟩) (by assumption) ?_
     try simp only [Act.put,List.setIfInBounds_toArray,List.set_cons_zero,List.set_cons_succ]
     refine wpAnyH_take (i:=17) (oi:={ dst:=some 32,op:=Op.pick (Operand.tmp 21) (Operand.tmp 31) (Operand.const (Value.bool false)),type:=4,pos:=_,after:=#[{ on:=6,ground:=Ground.data },{ on:=16,ground:=Ground.data },{ on:=3,ground:=Ground.guard }],guard:=some (3,false) }) (v:=undef) rfl (by kernel_rfl) (by kernel_rfl) (by kernel_rfl) (fun _ _ _ h=>h) (Or.inr ⟨by rfl,rfl⟩) (by assumption) ?_
     try simp only [Act.put,List.setIfInBounds_toArray,List.set_cons_zero,List.set_cons_succ]
     refine wpAnyH_take (i:=18) (oi:={ dst:=some 33,op:=Op.pick (Operand.tmp 18) (Operand.const (Value.bool true)) (Operand.tmp 32),type:=4,pos:=_,after:=#[{ on:=3,ground:=Ground.data },{ on:=17,ground:=Ground.data }],guard:=none }) (v:=?vb18) rfl (by kernel_rfl) (by kernel_rfl) (by kernel_rfl) (fun _ _ _ h=>h) (Or.inl ⟨by rfl,?hyb18⟩) (by assumption) ?restb18
     case hyb18=>((intro w hSw;(try dsimp only at hSw);go_simp);try with_reducible rfl)
     case' restb18=>(try simp only [Act.put,List.setIfInBounds_toArray,List.set_cons_zero,List.set_cons_succ])
     refine wpAnyH_done (by kernel_rfl) ?_ _
     have hB2:=hb0.trans (hHeld2.2.mono hb0.size)
     go_wp2
     go_ret
     exact⟨ret_bool (by rw [HR.out,HB.out]),hB2⟩
   ·have e:k=n:=by omega
    subst e
    go_wp2
    go_ret
    exact⟨ret_bool (by rw [HR.out,areB_yes ⟨by rw [←HN.out];omega,by have:=HP.out;rwa [List.take_of_length_le (by have:=HN.out;omega)]at this⟩]),hbel⟩
end
section
open Go.RowKit

def letB (c:UInt8):Bool:=decide (97≤c.toNat∧c.toNat≤122)
def digB (c:UInt8):Bool:=decide (48≤c.toNat∧c.toNat≤57)
def nbB (c:UInt8):Bool:=letB c || digB c || c==45
def txB (c:UInt8):Bool:=decide (32≤c.toNat∧c.toNat≤126)
def escB (c:UInt8):Bool:=c==34 || c==92
theorem byte_beq (c d:UInt8):((c.toNat:Int)==(d.toNat:Int))=(c==d):=by
 by_cases h:c=d
 ·subst h;simp
 ·rw [byte_ne h,beq_eq_false_iff_ne.2 h]
theorem iLet_any (c:UInt8)(w:World):Calls Tryz.prog 97 #[.int .u8 c.toNat] w fun e w'=>e=.returned (.bool (letB c))∧w=w':=by
 by_cases h:97≤(c.toNat:Int)<;>by_cases h':(c.toNat:Int)≤122
 all_goals
  go_enter Tryz.func97,Tryz.ntmps97
  go_wp2
  go_ret
  exact⟨ret_bool (by simp only [letB];first|(symm;exact decide_eq_true (by omega))|(symm;exact decide_eq_false (by omega))),rfl⟩
theorem iDigB_any (c:UInt8)(w:World):Calls Tryz.prog 99 #[.int .u8 c.toNat] w fun e w'=>e=.returned (.bool (digB c))∧w=w':=by
 by_cases h:48≤(c.toNat:Int)<;>by_cases h':(c.toNat:Int)≤57
 all_goals
  go_enter Tryz.func99,Tryz.ntmps99
  go_wp2
  go_ret
  exact⟨ret_bool (by simp only [digB];first|(symm;exact decide_eq_true (by omega))|(symm;exact decide_eq_false (by omega))),rfl⟩
theorem iNb_any (c:UInt8)(w:World):Calls Tryz.prog 122 #[.int .u8 c.toNat] w fun e w'=>e=.returned (.bool (nbB c))∧w=w':=by
 cases h:letB c<;>cases h':digB c
 all_goals
  go_enter Tryz.func122,Tryz.ntmps122
  go_wp2_with (first
   |(go_at_call 97;refine(iLet_any _ _).mono ?_;rw [h];rintro e w' ⟨rfl,rfl⟩)
   |(go_at_call 99;refine(iDigB_any _ _).mono ?_;rw [h'];rintro e w' ⟨rfl,rfl⟩))
  go_ret
  exact⟨ret_bool (by unfold nbB;rw [h,h'];first|rfl|(rw [←byte_beq];simp)),rfl⟩
end
section
open Go.RowKit

theorem sLet_any (c:UInt8)(w:World):Calls Tryz.prog 56 #[.int .i64 c.toNat,.int .i64 97,.int .i64 122] w fun e w'=>e=.returned (.bool (letB c))∧w=w':=
 (sIn_any _ _ _ w).mono fun _ _ ⟨he,hw⟩=>⟨by rw [he];exact ret_bool (by unfold letB;congr 1;exact propext ⟨fun h=>by omega,fun h=>by omega⟩),hw⟩
theorem sDig_any' (c:UInt8)(w:World):Calls Tryz.prog 56 #[.int .i64 c.toNat,.int .i64 48,.int .i64 57] w fun e w'=>e=.returned (.bool (digB c))∧w=w':=
 (sIn_any _ _ _ w).mono fun _ _ ⟨he,hw⟩=>⟨by rw [he];exact ret_bool (by unfold digB;congr 1;exact propext ⟨fun h=>by omega,fun h=>by omega⟩),hw⟩
theorem sTx_any (c:UInt8)(w:World):Calls Tryz.prog 56 #[.int .i64 c.toNat,.int .i64 32,.int .i64 126] w fun e w'=>e=.returned (.bool (txB c))∧w=w':=
 (sIn_any _ _ _ w).mono fun _ _ ⟨he,hw⟩=>⟨by rw [he];exact ret_bool (by unfold txB;congr 1;exact propext ⟨fun h=>by omega,fun h=>by omega⟩),hw⟩
def NameP (s:ByteArray):Prop:=
 0<s.size∧s.size≤16∧(∀h:0<s.size,letB s[0]=true)∧(∀h:s.size-1<s.size,s[s.size-1]≠45)∧∀k (h:k<s.size),nbB s[k]=true
noncomputable def nameB (s:ByteArray):Bool:=@decide (NameP s) (Classical.propDecidable _)
theorem name_yes {s:ByteArray}(h:NameP s):true=nameB s:=(@decide_eq_true _ (Classical.propDecidable _) h).symm
theorem name_no {s:ByteArray}(h:¬NameP s):false=nameB s:=(@decide_eq_false _ (Classical.propDecidable _) h).symm
def TextP (s:ByteArray):Prop:=s.size≤40∧∀k (h:k<s.size),txB s[k]=true
noncomputable def textB (s:ByteArray):Bool:=@decide (TextP s) (Classical.propDecidable _)
theorem text_yes {s:ByteArray}(h:TextP s):true=textB s:=(@decide_eq_true _ (Classical.propDecidable _) h).symm
theorem text_no {s:ByteArray}(h:¬TextP s):false=textB s:=(@decide_eq_false _ (Classical.propDecidable _) h).symm
theorem iIsText_any (s:ByteArray)(hs:s.size≤maxLen)(w:World):
  Calls Tryz.prog 52 #[.string s] w fun e w'=>e=.returned (.bool (textB s))∧w=w':=by
 unfold maxLen at hs
 by_cases hl:40<s.size
 ·go_enter Tryz.func52,Tryz.ntmps52
  go_wp2
  go_ret
  exact⟨ret_bool (text_no fun h=>by have:=h.1;omega),rfl⟩
 ·go_enter Tryz.func52,Tryz.ntmps52
  go_wp2
  go_loop [9] (fun i=>∃k:Nat,k≤s.size∧i=.int .i64 k∧∀j (h:j<s.size),j<k→txB s[j]=true) (fun i=>s.size-(intOf i).toNat)
  case atStart=>exact⟨0,by omega,rfl,fun _ _ h=>by omega⟩
  case round=>
   obtain⟨k,hk,rfl,hr⟩:=hrel
   have HR:=hid hr
   clear hr
   by_cases hlt:k<s.size
   ·go_wp2
    all_goals first
     |(go_round
       case rel=>exact⟨k+1,by omega,by go_num,fun j h hj=>if he:j<k then HR.out j h he else by
        obtain rfl:j=k:=by omega
        exact decide_eq_true (by omega)⟩
       case measure=>simp [intOf];omega)
     |(go_ret
       exact⟨ret_bool (text_no fun h=>by have:=h.2 k hlt;have:=of_decide_eq_true this;omega),rfl⟩)
   ·go_wp2
    go_ret
    exact⟨ret_bool (text_yes ⟨by omega,fun j h=>HR.out j h (by omega)⟩),rfl⟩
theorem sIsText_any (s:ByteArray)(hs:s.size≤maxLen)(w:World):
  Calls Tryz.prog 28 #[.string s] w fun e w'=>e=.returned (.bool (textB s))∧w=w':=by
 unfold maxLen at hs
 go_enter Tryz.func28,Tryz.ntmps28
 go_wp2
 go_loop [3] (fun i=>∃k:Nat,k≤s.size∧i=.int .i64 k∧∀j (h:j<s.size),j<k→txB s[j]=true) (fun i=>s.size-(intOf i).toNat)
 case atStart=>exact⟨0,by omega,rfl,fun _ _ h=>by omega⟩
 case round=>
  obtain⟨k,hk,rfl,hr⟩:=hrel
  have HR:=hid hr
  clear hr
  by_cases hlt:k<s.size
  ·have hby:(s[k].toNat:Int)≤255:=by have:=s[k].toNat_lt;omega
   cases ht:txB s[k]
   all_goals
    have HT:=hid ht
    clear ht
    go_wp2_with (go_at_call 56;refine(sTx_any _ _).mono ?_;rw [HT.out];rintro e w' ⟨rfl,rfl⟩)
    first
     |(go_round
       case rel=>exact⟨k+1,by omega,by go_num,fun j h hj=>if he:j<k then HR.out j h he else by
        obtain rfl:j=k:=by omega
        exact HT.out⟩
       case measure=>simp [intOf];omega)
     |(go_ret
       exact⟨ret_bool (text_no fun h=>by have:=h.2 k hlt;rw [HT.out]at this;cases this),rfl⟩)
  ·by_cases h40:(s.size:Int)≤40
   all_goals
    go_wp2
    go_ret
    first
     | exact⟨ret_bool (text_yes ⟨by omega,fun j h=>HR.out j h (by omega)⟩),rfl⟩
     | exact⟨ret_bool (text_no fun h=>by have:=h.1;omega),rfl⟩
theorem iIsName_any (s:ByteArray)(hs:s.size≤maxLen)(w:World):
  Calls Tryz.prog 114 #[.string s] w fun e w'=>e=.returned (.bool (nameB s))∧w=w':=by
 unfold maxLen at hs
 by_cases h0:s.size=0
 ·obtain rfl:=str_empty h0
  go_enter Tryz.func114,Tryz.ntmps114
  go_wp2
  go_ret
  exact⟨ret_bool (name_no fun h=>absurd h.1 (by decide)),rfl⟩
 ·have hp:0<s.size:=by omega
  have hne:s.toList.isEmpty=false:=not_empty hp
  by_cases hl:16<s.size
  ·go_enter Tryz.func114,Tryz.ntmps114
   go_wp2
   go_ret
   exact⟨ret_bool (name_no fun h=>by have:=h.2.1;omega),rfl⟩
  ·cases h1:letB s[0]
   ·go_enter Tryz.func114,Tryz.ntmps114
    go_wp2_with (go_at_call 97;refine(iLet_any _ _).mono ?_;rw [h1];rintro e w' ⟨rfl,rfl⟩)
    go_ret
    exact⟨ret_bool (name_no fun h=>by have:=h.2.2.1 hp;rw [h1]at this;cases this),rfl⟩
   ·have H1:=hid h1
    clear h1
    by_cases h2:s[s.size-1]=45
    ·have h2':((s[s.size-1].toNat:Int)==45)=true:=by rw [h2];rfl
     have H2:=hid h2
     clear h2
     go_enter Tryz.func114,Tryz.ntmps114
     go_wp2_with (go_at_call 97;refine(iLet_any _ _).mono ?_;rw [H1.out];rintro e w' ⟨rfl,rfl⟩)
     go_ret
     exact⟨ret_bool (name_no fun h=>h.2.2.2.1 (by omega) H2.out),rfl⟩
    ·have h2':((s[s.size-1].toNat:Int)==45)=false:=byte_ne (d:=45) h2
     have H2:=hid h2
     clear h2
     go_enter Tryz.func114,Tryz.ntmps114
     go_wp2_with (go_at_call 97;refine(iLet_any _ _).mono ?_;rw [H1.out];rintro e w' ⟨rfl,rfl⟩)
     go_loop [27] (fun i=>∃k:Nat,k≤s.size∧i=.int .i64 k∧∀j (h:j<s.size),j<k→nbB s[j]=true) (fun i=>s.size-(intOf i).toNat)
     case atStart=>exact⟨0,by omega,rfl,fun _ _ h=>by omega⟩
     case round=>
      obtain⟨k,hk,rfl,hr⟩:=hrel
      have HR:=hid hr
      clear hr
      by_cases hlt:k<s.size
      ·cases ht:nbB s[k]
       all_goals
        have HT:=hid ht
        clear ht
        go_wp2_with (go_at_call 122;refine(iNb_any _ _).mono ?_;rw [HT.out];rintro e w' ⟨rfl,rfl⟩)
        first
         |(go_round
           case rel=>exact⟨k+1,by omega,by go_num,fun j h hj=>if he:j<k then HR.out j h he else by
            obtain rfl:j=k:=by omega
            exact HT.out⟩
           case measure=>simp [intOf];omega)
         |(go_ret
           exact⟨ret_bool (name_no fun h=>by have:=h.2.2.2.2 k hlt;rw [HT.out]at this;cases this),rfl⟩)
      ·go_wp2
       go_ret
       exact⟨ret_bool (name_yes ⟨hp,by omega,fun _=>H1.out,fun _=>H2.out,fun j h=>HR.out j h (by omega)⟩),rfl⟩
end
section
open Go.RowKit

def NameUpTo (s:ByteArray)(k:Nat):Prop:=(∀j (h:j<s.size),j<k→nbB s[j]=true)∧(0<k→∀h:0<s.size,letB s[0]=true)
theorem name_step {s:ByteArray}{k:Nat}(h:NameUpTo s k)(hk:k<s.size)(h1:nbB s[k]=true)(h0:k=0→letB s[k]=true):NameUpTo s (k+1):=
 ⟨fun j hj hjk=>if he:j<k then h.1 j hj he else by
  obtain rfl:j=k:=by omega
  exact h1,fun _ hs=>if he:0<k then h.2 he hs else by
  obtain rfl:k=0:=by omega
  exact h0 rfl⟩
theorem nb_let {c:UInt8}(h:letB c=true):nbB c=true:=by unfold nbB;rw [h];rfl
theorem nb_dig {c:UInt8}(h:digB c=true):nbB c=true:=by unfold nbB;rw [h];simp
theorem nb_dash {c:UInt8}(h:c=45):nbB c=true:=by unfold nbB;rw [h];simp
theorem nb_no {c:UInt8}(h:letB c=false)(h':digB c=false)(h'':c≠45):nbB c=false:=by unfold nbB;rw [h,h',beq_eq_false_iff_ne.2 h''];rfl
theorem sIsName_any (s:ByteArray)(hs:s.size≤maxLen)(w:World):
  Calls Tryz.prog 59 #[.string s] w fun e w'=>e=.returned (.bool (nameB s))∧w=w':=by
 unfold maxLen at hs
 go_enter Tryz.func59,Tryz.ntmps59
 go_wp2
 go_loop [3] (fun i=>∃k:Nat,k≤s.size∧i=.int .i64 k∧NameUpTo s k) (fun i=>s.size-(intOf i).toNat)
 case atStart=>exact⟨0,by omega,rfl,fun _ _ h=>by omega,fun h=>by omega⟩
 case round=>
  obtain⟨k,hk,rfl,hr⟩:=hrel
  have HR:=hid hr
  clear hr
  by_cases hlt:k<s.size
  ·have hby:(s[k].toNat:Int)≤255:=by have:=s[k].toNat_lt;omega
   cases hl:letB s[k]
   ·have HL:=hid hl
    clear hl
    by_cases hk0:k=0
    ·subst hk0
     go_wp2_with (go_at_call 56;((with_reducible refine(sLet_any _ _).mono ?_));rw [HL.out];rintro e w' ⟨rfl,rfl⟩)
     go_ret
     exact⟨ret_bool (name_no fun h=>by have:=h.2.2.1 hlt;rw [HL.out]at this;cases this),rfl⟩
    ·have hk1:((k:Int)==0)=false:=by simp only [beq_eq_false_iff_ne,ne_eq];omega
     cases hd:digB s[k]
     ·have HD:=hid hd
      clear hd
      by_cases h2:s[k]=45
      ·have h2':((s[k].toNat:Int)==45)=true:=by rw [h2];rfl
       have H2:=hid h2
       clear h2
       go_wp2_with (first
        |(go_at_call 56;((with_reducible refine(sLet_any _ _).mono ?_));rw [HL.out];rintro e w' ⟨rfl,rfl⟩)
        |(go_at_call 56;((with_reducible refine(sDig_any' _ _).mono ?_));rw [HD.out];rintro e w' ⟨rfl,rfl⟩))
       go_round
       case rel=>exact⟨k+1,by omega,by go_num,name_step HR.out hlt (nb_dash H2.out) fun h=>absurd h hk0⟩
       case measure=>simp [intOf];omega
      ·have h2':((s[k].toNat:Int)==45)=false:=byte_ne (d:=45) h2
       have H2:=hid h2
       clear h2
       go_wp2_with (first
        |(go_at_call 56;((with_reducible refine(sLet_any _ _).mono ?_));rw [HL.out];rintro e w' ⟨rfl,rfl⟩)
        |(go_at_call 56;((with_reducible refine(sDig_any' _ _).mono ?_));rw [HD.out];rintro e w' ⟨rfl,rfl⟩))
       go_ret
       exact⟨ret_bool (name_no fun h=>by have:=h.2.2.2.2 k hlt;rw [nb_no HL.out HD.out H2.out]at this;cases this),rfl⟩
     ·have HD:=hid hd
      clear hd
      go_wp2_with (first
       |(go_at_call 56;((with_reducible refine(sLet_any _ _).mono ?_));rw [HL.out];rintro e w' ⟨rfl,rfl⟩)
       |(go_at_call 56;((with_reducible refine(sDig_any' _ _).mono ?_));rw [HD.out];rintro e w' ⟨rfl,rfl⟩))
      go_round
      case rel=>exact⟨k+1,by omega,by go_num,name_step HR.out hlt (nb_dig HD.out) fun h=>absurd h hk0⟩
      case measure=>simp [intOf];omega
   ·have HL:=hid hl
    clear hl
    go_wp2_with (go_at_call 56;((with_reducible refine(sLet_any _ _).mono ?_));rw [HL.out];rintro e w' ⟨rfl,rfl⟩)
    go_round
    case rel=>exact⟨k+1,by omega,by go_num,name_step HR.out hlt (nb_let HL.out) fun _=>HL.out⟩
    case measure=>simp [intOf];omega
  ·by_cases h1:1≤s.size∧s.size≤16
   ·obtain⟨h1,h16⟩:=h1
    by_cases h2:s[s.size-1]=45
    ·have h2':((s[s.size-1].toNat:Int)==45)=true:=by rw [h2];rfl
     have H2:=hid h2
     clear h2
     go_wp2_with (go_at_call 56;refine(sIn_yes _ _ _ _ (by omega) (by omega)).mono ?_;rintro e w' ⟨rfl,rfl⟩)
     go_ret
     exact⟨ret_bool (by rw [bne,h2'];exact name_no fun h=>h.2.2.2.1 (by omega) H2.out),rfl⟩
    ·have h2':((s[s.size-1].toNat:Int)==45)=false:=byte_ne (d:=45) h2
     have H2:=hid h2
     clear h2
     go_wp2_with (go_at_call 56;refine(sIn_yes _ _ _ _ (by omega) (by omega)).mono ?_;rintro e w' ⟨rfl,rfl⟩)
     go_ret
     exact⟨ret_bool (by rw [bne,h2'];exact name_yes ⟨by omega,by omega,HR.out.2 (by omega),fun _=>H2.out,fun j h=>HR.out.1 j h (by omega)⟩),rfl⟩
   ·go_wp2_with (go_at_call 56;refine(sIn_no _ _ _ _ (by omega)).mono ?_;rintro e w' ⟨rfl,rfl⟩)
    go_ret
    exact⟨ret_bool (name_no fun h=>h1 ⟨h.1,h.2.1⟩),rfl⟩
end
section
open Go.RowKit

def NamesOk (l:List ByteArray)(n:Nat):Prop:=∀i (hi:i<l.length),i<n→NameP l[i]∧∀k (hk:k<l.length),k<i→l[k]≠l[i]
noncomputable def namesB (l:List ByteArray):Bool:=@decide (NamesOk l l.length) (Classical.propDecidable _)
theorem names_yes {l:List ByteArray}(h:NamesOk l l.length):namesB l=true:=@decide_eq_true _ (Classical.propDecidable _) h
theorem names_no {l:List ByteArray}(h:¬NamesOk l l.length):namesB l=false:=@decide_eq_false _ (Classical.propDecidable _) h
theorem names_zero (l:List ByteArray):NamesOk l 0:=fun i _ h=>absurd h (by omega)
theorem names_nil:namesB []=true:=names_yes fun i hi=>absurd hi (by simp)
theorem names_step {l:List ByteArray}{k:Nat}(hk:k<l.length)(h:NamesOk l k)(h1:nameB l[k]=true)(h2:∀j (hj:j<l.length),j<k→l[j]≠l[k]):NamesOk l (k+1):=by
 intro i hi hik
 by_cases he:i=k
 ·subst he
  refine⟨?_,h2⟩
  by_cases hn:NameP l[i]
  ·exact hn
  ·rw [←name_no hn]at h1;cases h1
 ·exact h i hi (by omega)
theorem names_bad {l:List ByteArray}{k:Nat}(hk:k<l.length)(h1:nameB l[k]=false):namesB l=false:=names_no fun h=>by
 have:=(h k hk hk).1
 rw [←name_yes this]at h1;cases h1
theorem names_twice {l:List ByteArray}{j k:Nat}(hj:j<l.length)(hk:k<l.length)(hjk:j<k)(h:l[j]=l[k]):namesB l=false:=names_no fun hh=>(hh k hk hk).2 j hj hjk h
theorem has_take {w:World}{A:Option Addr}{n c k:Nat}{l:List ByteArray}(h:Has w (.slice A n c) l)(hk:k≤n):Has w (.slice A k c) (l.take k):=by
 obtain⟨A',cap,e,hn,hc⟩:=h
 cases e
 refine⟨A,c,by rw [List.length_take,Nat.min_eq_left hk],by rw [List.length_take];omega,fun i hi=>?_⟩
 have hi':i<l.length:=by rw [List.length_take]at hi;omega
 obtain⟨a,h1,h2,h3⟩:=hc i hi'
 exact⟨a,h1,h2,by rw [h3,List.getElem_take]⟩
theorem mem_take' {l:List ByteArray}{k:Nat}{s:ByteArray}(h:s∈l.take k):∃j,∃hj:j<l.length,j<k∧l[j]=s:=by
 obtain⟨j,hj,e⟩:=List.getElem_of_mem h
 rw [List.length_take]at hj
 exact⟨j,by omega,by omega,by rw [←e,List.getElem_take]⟩
theorem take_mem' {l:List ByteArray}{j k:Nat}(hj:j<l.length)(h:j<k):l[j]∈l.take k:=by
 rw [←List.getElem_take (j:=k) (h:=by rw [List.length_take];omega)]
 exact List.getElem_mem _
theorem add_0 (a:Addr):a.add 0=a:=by
 unfold Addr.add;split
 ·cases a;simp_all
 ·cases a;simp_all
theorem str_ne {s x:ByteArray}(h:s≠x):(s.toList==x.toList)=false:=by
 rw [beq_eq_false_iff_ne]
 intro e
 rw [ByteArray.toList_eq,ByteArray.toList_eq]at e
 exact h (ByteArray.ext (Array.toList_inj.1 e))
theorem index_any (v:Value)(l:List ByteArray)(s:ByteArray)(w:World)(hv:Has w v l):
  Calls Tryz.prog 54 #[v,.string s] w fun e w'=>(∃r:Int,e=.returned (.int .i64 r)∧Hid (0≤r↔s∈l))∧w=w':=by
 obtain⟨A,cap,rfl,hn',hc⟩:=hv
 obtain⟨n,hnn⟩:∃n,n=l.length:=⟨_,rfl⟩
 have HN:Hid (n=l.length):=hid hnn
 rw [←hnn]at hn' ⊢
 clear hnn
 go_enter Tryz.func54,Tryz.ntmps54
 go_wp2
 go_loop [8] (fun i=>∃k:Nat,k≤n∧i=.int .i64 k∧Hid (∀j (hj:j<l.length),j<k→s≠l[j])) (fun i=>n-(intOf i).toNat)
 case atStart=>exact⟨0,Nat.zero_le _,rfl,hid fun j _ h=>absurd h (by omega)⟩
 case round=>
  obtain⟨k,hk,rfl,HI⟩:=hrel
  by_cases hlt:k<n
  ·have hlk:k<l.length:=by rw [←HN.out];exact hlt
   obtain⟨a,rfl,hab,hcell⟩:=hc k hlk
   obtain⟨x,hx⟩:∃x,x=l[k]:=⟨_,rfl⟩
   rw [←hx]at hcell
   have HX:=hid hx
   clear hx hc
   by_cases he:s=x
   ·subst he
    have HB:Hid (0≤(k:Int)↔s∈l):=hid ⟨fun _=>by rw [HX.out];exact List.getElem_mem _,fun _=>by omega⟩
    go_wp2
    go_ret
    exact⟨⟨_,rfl,HB⟩,rfl⟩
   ·have h1:(s.toList==x.toList)=false:=str_ne he
    have HJ:Hid (∀j (hj:j<l.length),j<k+1→s≠l[j]):=hid fun j hj hjk=>by
     by_cases e:j=k
     ·subst e;rw [←HX.out];exact he
     ·exact HI.out j hj (by omega)
    clear he
    go_wp2
    go_round
    case rel=>exact⟨k+1,by omega,by go_num,HJ⟩
    case measure=>simp [intOf];omega
  ·have HB:Hid (0≤(-1:Int)↔s∈l):=hid ⟨fun h=>absurd h (by omega),fun h=>by
    obtain⟨j,hj,e⟩:=List.getElem_of_mem h
    exact absurd e.symm (HI.out j hj (by have:=HN.out;omega))⟩
   go_wp2
   go_ret
   exact⟨⟨_,rfl,HB⟩,rfl⟩
theorem contains_any (v:Value)(l:List ByteArray)(s:ByteArray)(w:World)(hv:Has w v l):
  Calls Tryz.prog 23 #[v,.string s] w fun e w'=>(∃b:Bool,e=.returned (.bool b)∧Hid (b=true↔s∈l))∧w=w':=by
 have HC:=hid (index_any v l s w hv)
 clear hv
 go_enter Tryz.func23,Tryz.ntmps23
 go_wp2_with (go_at_call 54;refine(HC.out).mono ?_;rintro e w' ⟨⟨r,rfl,hr⟩,rfl⟩)
 go_ret
 exact⟨⟨_,rfl,hid (by rw [←hr.out];simp)⟩,rfl⟩
noncomputable def memB (s:ByteArray)(l:List ByteArray):Bool:=@decide (s∈l) (Classical.propDecidable _)
theorem mem_iff (s:ByteArray)(l:List ByteArray):memB s l=true↔s∈l:=@decide_eq_true_iff _ (Classical.propDecidable _)
theorem containsB_any (v:Value)(l:List ByteArray)(s:ByteArray)(w:World)(hv:Has w v l):
  Calls Tryz.prog 23 #[v,.string s] w fun e w'=>e=.returned (.bool (memB s l))∧w=w':=
 (contains_any v l s w hv).mono fun e w' ⟨⟨b,he,hb⟩,hw⟩=>⟨by rw [he];exact ret_bool (by rw [Bool.eq_iff_iff,mem_iff,hb.out]),hw⟩
def loB:List Rg→Bool|[]=>true|x::_=>decide (0≤x.lo)
theorem areLen_any (v:Value)(l:List Rg)(w:World)(hv:HasG w v l):
  Calls Tryz.prog 90 #[v] w fun e w'=>e=.returned (.bool (areB l&&loB l))∧Below w.heap.size w w':=by
 have HC:=hid (iAre_any v l w hv)
 obtain⟨A,cap,rfl,hn',hc⟩:=hv
 generalize areB l=b at HC ⊢
 cases b with
 | false =>
  clear hc
  go_enter Tryz.func90,Tryz.ntmps90
  go_wp2_with (go_at_call 40;refine(HC.out).mono ?_;rintro e w' ⟨rfl,hb⟩)
  go_ret
  exact⟨rfl,hb⟩
 | true =>
  cases l with
  | nil =>
   clear hc
   go_enter Tryz.func90,Tryz.ntmps90
   go_wp2_with (go_at_call 40;refine(HC.out).mono ?_;rintro e w' ⟨rfl,hb⟩)
   go_ret
   exact⟨rfl,hb⟩
  | cons x r =>
   obtain⟨a,rfl,hab,hcell⟩:=HasG.gk hc 0 (by simp)
   have HCL:Hid (∀W,Below w.heap.size w W→W.cell? a=some (.int .i64 x.lo)):=hid fun W hb=>by
    have:=(hcell.below hb hab).1
    rw [Nat.zero_mul,add_0]at this;exact this
   obtain⟨n,hn⟩:∃n,n=(x::r).length:=⟨_,rfl⟩
   rw [←hn]at HC hn' ⊢
   have h0:(n==0)=false:=by rw [hn];simp
   have h1:(0:Int)<(n:Int):=by rw [hn];simp
   have h2:((n:Int)==0)=false:=by simp;omega
   clear hc hcell hn
   go_enter Tryz.func90,Tryz.ntmps90
   go_wp2_with (go_at_call 40;refine(HC.out).mono ?_;rintro e w' ⟨rfl,hb⟩;have c0:=HCL.out _ hb)
   go_ret
   exact⟨by simp [loB],hb⟩
end
end Go.Proofs.YtecladbckadijaaGreatDoor
