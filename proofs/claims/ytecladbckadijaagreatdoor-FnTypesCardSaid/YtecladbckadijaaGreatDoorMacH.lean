/- MERGED for a claim. -/
import Derived.Test.YtecladbckadijaaGreatDoorMacE
import Derived.Laws.EntriesVeiled
set_option linter.unusedVariables false
set_option linter.unusedSimpArgs false
set_option maxRecDepth 100000
set_option maxHeartbeats 16000000
namespace Go.Proofs.YtecladbckadijaaGreatDoor
open Go.Lib (hid)
section
open Go.RowKit Mac

section
variable {X:Cx} {K K':Kn} {vr vw:Value} {cs:List Nat} {w w':World} {S:Mc}
def WaitP (X:Cx)(K:Kn)(vr:Value)(cs:List Nat)(S:Mc)(i c:Nat)(e:Ending)(w':World):Prop:=e=.returned (.tuple #[])∧∃vw',Rep X K vr vw' (cs++ [c]) w' { S with waiting:=S.waiting++ [i] }
theorem wait_any (h:Rep X K vr vw cs w S){i c:Nat}{p:Pl}(hp:S.pl[i]? =some p)(k5:K c=some (bx (ptr X.m) tM))(k6:K (c+3)=some (bx (takeV c) tG))(hk:TakeK X K S.pl p c)(hn:S.waiting.length+1≤2147483648):Calls Tryz.prog 177 #[ptr c,ptr (c+3)] w (WaitP X K vr cs S i c):=by
 obtain⟨i0,hi,hz0,hz1,hz2⟩:=info_parts infoG
 have H1:=hid h
 have HK5:=hid k5
 have HK6:=hid k6
 have HTK:=hid hk
 have HP:=hid hp
 have HN:Hid (cs.length+1≤2147483648):=hid (by rw [h.cl];exact hn)
 have e5:=cell_of_one (h.hk _ _ k5)
 have e6:=cell_of_one (h.hk _ _ k6)
 obtain⟨⟨_,_,n2⟩,fn⟩:=h.cells
 have fn2:=fn 2
 have hmlt:=h.mlt
 have hq5:c<w.heap.size:=blk_lt (h.hk _ _ k5)
 have hq6:c+3<w.heap.size:=blk_lt (h.hk _ _ k6)
 have hmp5:X.m≠c:=fun e=>by have:=HK5.out;rw [←e,H1.out.dis.km]at this;cases this
 have hmp6:X.m≠c+3:=fun e=>by have:=HK6.out;rw [←e,H1.out.dis.km]at this;cases this
 clear h k5 k6 hk hp hn fn
 go_enter Tryz.func177,Tryz.ntmps177
 go_wp2
 refine wp_region_held_drew (S:=fun w'=>w'.cell? ⟨c,0,none⟩=some (ptr X.m)∧w'.cell? ⟨c+3,0,none⟩=some (takeV c)) (by kernel_rfl) ⟨e5,e6⟩ (fun hHeld=>?_)
 refine wpAnyH_take (i:=0) (oi:={ dst:=some 2,op:=Op.load 151 (Operand.tmp 0),type:=151,pos:=_,after:=#[],guard:=none }) (v:=?vq1) rfl (by kernel_rfl) (by kernel_rfl) (by kernel_rfl) (fun _ _ _ h=>h) (Or.inl ⟨by rfl,?hyq1⟩) (by assumption) ?restq1
 case hyq1=>((intro w hSw;(try dsimp only at hSw);go_simp);try with_reducible rfl)
 case' restq1=>(try simp only [Act.put,List.setIfInBounds_toArray,List.set_cons_zero,List.set_cons_succ])
 refine wpAnyH_take (i:=1) (oi:={ dst:=some 3,op:=Op.load 151 (Operand.tmp 0),type:=151,pos:=_,after:=#[],guard:=none }) (v:=?vq2) rfl (by kernel_rfl) (by kernel_rfl) (by kernel_rfl) (fun _ _ _ h=>h) (Or.inl ⟨by rfl,?hyq2⟩) (by assumption) ?restq2
 case hyq2=>((intro w hSw;(try dsimp only at hSw);go_simp);try with_reducible rfl)
 case' restq2=>(try simp only [Act.put,List.setIfInBounds_toArray,List.set_cons_zero,List.set_cons_succ])
 refine wpAnyH_take (i:=2) (oi:={ dst:=some 4,op:=Op.nilCheck (Operand.tmp 3),type:=0,pos:=_,after:=#[{ on:=1,ground:=Ground.data }],guard:=none }) (v:=?vq3) rfl (by kernel_rfl) (by kernel_rfl) (by kernel_rfl) (fun _ _ _ h=>h) (Or.inl ⟨by rfl,?hyq3⟩) (by assumption) ?restq3
 case hyq3=>((intro w hSw;(try dsimp only at hSw);go_simp);try with_reducible rfl)
 case' restq3=>(try simp only [Act.put,List.setIfInBounds_toArray,List.set_cons_zero,List.set_cons_succ])
 refine wpAnyH_take (i:=3) (oi:={ dst:=some 5,op:=Op.fieldAddr 155 (Operand.tmp 4) 2,type:=0,pos:=_,after:=#[{ on:=2,ground:=Ground.data }],guard:=none }) (v:=?vq4) rfl (by kernel_rfl) (by kernel_rfl) (by kernel_rfl) (fun _ _ _ h=>h) (Or.inl ⟨by rfl,?hyq4⟩) (by assumption) ?restq4
 case hyq4=>((intro w hSw;(try dsimp only at hSw);go_simp);try with_reducible rfl)
 case' restq4=>(try simp only [Act.put,List.setIfInBounds_toArray,List.set_cons_zero,List.set_cons_succ])
 refine wpAnyH_take (i:=5) (oi:={ dst:=some 7,op:=Op.load 172 (Operand.tmp 1),type:=172,pos:=_,after:=#[],guard:=none }) (v:=?vq5) rfl (by kernel_rfl) (by kernel_rfl) (by kernel_rfl) (fun _ _ _ h=>h) (Or.inl ⟨by rfl,?hyq5⟩) (by assumption) ?restq5
 case hyq5=>((intro w hSw;(try dsimp only at hSw);go_simp);try with_reducible rfl)
 case' restq5=>(try simp only [Act.put,List.setIfInBounds_toArray,List.set_cons_zero,List.set_cons_succ])
 refine wpAnyH_ready (rs:=[4,6]) (by kernel_rfl) (by simp) ?_
 refine AllReadyH.cons (o:={ dst:=some 6,op:=Op.load 153 (Operand.tmp 5),type:=153,pos:=_,after:=#[{ on:=3,ground:=Ground.data }],guard:=none }) rfl (fun K hK=>?_) (AllReadyH.cons (o:={ dst:=some 8,op:=Op.buildSlice 153 1 #[(0,(Operand.tmp 7))],type:=153,pos:=_,after:=#[{ on:=5,ground:=Ground.data }],guard:=none }) rfl (fun K hK=>?_) AllReadyH.nil)
 ·
  go_simp
  refine hK.out _ _ (by go_keep) (fun hHeld2=>?_)
  clear hK K hHeld;have hHeld:=hHeld2;clear hHeld2
  (try simp only [Act.put,List.setIfInBounds_toArray,List.set_cons_zero,List.set_cons_succ])
  refine wpAnyH_ready (rs:=[6]) (by kernel_rfl) (by simp) ?_
  refine AllReadyH.cons (o:={ dst:=some 8,op:=Op.buildSlice 153 1 #[(0,(Operand.tmp 7))],type:=153,pos:=_,after:=#[{ on:=5,ground:=Ground.data }],guard:=none }) rfl (fun K hK=>?_) AllReadyH.nil
  go_simp
  refine hK.out _ _ (by go_keep) (fun hHeld2=>?_)
  clear hK K hHeld;have hHeld:=hHeld2;clear hHeld2
  (try simp only [Act.put,List.setIfInBounds_toArray,List.set_cons_zero,List.set_cons_succ])
  refine wpAnyH_ready (rs:=[7]) (by kernel_rfl) (by simp) ?_
  refine AllReadyH.cons (o:={ dst:=some 9,op:=Op.call { callee:=Callee.builtin Builtin.append,args:=#[Operand.tmp 6,Operand.tmp 8],argTypes:=#[153,153] },type:=153,pos:=_,after:=#[{ on:=4,ground:=Ground.data },{ on:=6,ground:=Ground.data }],guard:=none }) rfl (fun K hK=>?_) AllReadyH.nil
  refine step_fn_append rfl _ _ 153 tG i0 (by rfl) Tryz.underlying153 hi hz0 hz1 hz2 X.w0.heap.size cs.length vw _ (by rfl) (RowR.alloc H1.out.rw _) (by simp) (takeV c) ⟨w.heap.size,0,none⟩ 1 (by rfl) (cell_of_one (heap_alloc_new _ _)) (by rfl) HN.out (by have:=H1.out.bel.size;simp;omega) (cs.length+1) rfl ?_
  intro g' c4 w4 hrow4 hg4 hp4
  have hX4:w4.heap[X.m]? =some (.cells #[.int .i64 S.pos,vr,vw] tS (0,0)):=(hg4.block _ (by simp;omega) (fun e=>(H1.out.dis.kw _ e.symm).2.1 rfl)).trans ((Below.heap_alloc _ _ _ hmlt).trans H1.out.hm)
  have f4:w4.frozen? ⟨X.m,2,none⟩=false:=frozen_of_row _ X.m 2 _ _ hX4
  have e4:w4.cell? ⟨X.m,2,none⟩=some vw:=by rw [cell_of_row _ X.m 2 _ _ _ hX4];rfl
  have e7:w4.cell? ⟨c,0,none⟩=some (ptr X.m):=cell_of_one ((hg4.block _ (by simp;omega) (fun e=>(by have:=(H1.out.dis.kw _ e.symm).1;rw [HK5.out]at this;cases this))).trans ((Below.heap_alloc _ _ _ hq5).trans (H1.out.hk _ _ HK5.out)))
  have e8:w4.cell? ⟨c+3,0,none⟩=some (takeV c):=cell_of_one ((hg4.block _ (by simp;omega) (fun e=>(by have:=(H1.out.dis.kw _ e.symm).1;rw [HK6.out]at this;cases this))).trans ((Below.heap_alloc _ _ _ hq6).trans (H1.out.hk _ _ HK6.out)))
  refine hK.out _ _ ⟨e7,e8⟩ (fun hHeld2=>?_)
  clear hK K hHeld;have hHeld:=hHeld2;clear hHeld2
  (try simp only [Act.put,List.setIfInBounds_toArray,List.set_cons_zero,List.set_cons_succ])
  refine wpAnyH_take (i:=8) (oi:={ dst:=some 10,op:=Op.nilCheck (Operand.tmp 2),type:=0,pos:=_,after:=#[{ on:=0,ground:=Ground.data },{ on:=0,ground:=Ground.phase },{ on:=1,ground:=Ground.phase },{ on:=2,ground:=Ground.phase },{ on:=3,ground:=Ground.phase },{ on:=4,ground:=Ground.phase },{ on:=5,ground:=Ground.phase },{ on:=6,ground:=Ground.phase },{ on:=7,ground:=Ground.phase }],guard:=none }) (v:=?vq6) rfl (by kernel_rfl) (by kernel_rfl) (by kernel_rfl) (fun _ _ _ h=>h) (Or.inl ⟨by rfl,?hyq6⟩) (by assumption) ?restq6
  case hyq6=>((intro w hSw;(try dsimp only at hSw);go_simp);try with_reducible rfl)
  case' restq6=>(try simp only [Act.put,List.setIfInBounds_toArray,List.set_cons_zero,List.set_cons_succ])
  refine wpAnyH_take (i:=9) (oi:={ dst:=some 11,op:=Op.fieldAddr 155 (Operand.tmp 10) 2,type:=0,pos:=_,after:=#[{ on:=8,ground:=Ground.data },{ on:=0,ground:=Ground.phase },{ on:=1,ground:=Ground.phase },{ on:=2,ground:=Ground.phase },{ on:=3,ground:=Ground.phase },{ on:=4,ground:=Ground.phase },{ on:=5,ground:=Ground.phase },{ on:=6,ground:=Ground.phase },{ on:=7,ground:=Ground.phase }],guard:=none }) (v:=?vq7) rfl (by kernel_rfl) (by kernel_rfl) (by kernel_rfl) (fun _ _ _ h=>h) (Or.inl ⟨by rfl,?hyq7⟩) (by assumption) ?restq7
  case hyq7=>((intro w hSw;(try dsimp only at hSw);go_simp);try with_reducible rfl)
  case' restq7=>(try simp only [Act.put,List.setIfInBounds_toArray,List.set_cons_zero,List.set_cons_succ])
  refine wpAnyH_ready (rs:=[10]) (by kernel_rfl) (by simp) ?_
  refine AllReadyH.cons (o:={ dst:=none,op:=Op.store 153 (Operand.tmp 11) (Operand.tmp 9),type:=0,pos:=_,after:=#[{ on:=9,ground:=Ground.data },{ on:=7,ground:=Ground.data },{ on:=7,ground:=Ground.chain },{ on:=0,ground:=Ground.phase },{ on:=1,ground:=Ground.phase },{ on:=2,ground:=Ground.phase },{ on:=3,ground:=Ground.phase },{ on:=4,ground:=Ground.phase },{ on:=5,ground:=Ground.phase },{ on:=6,ground:=Ground.phase },{ on:=7,ground:=Ground.phase }],guard:=none }) rfl (fun K hK=>?_) AllReadyH.nil
  go_simp
  refine hK.out _ _ (by go_keep) (fun hHeld2=>?_)
  clear hK K hHeld;have hHeld:=hHeld2;clear hHeld2
  (try simp only [Act.put,List.setIfInBounds_toArray,List.set_cons_zero,List.set_cons_succ])
  refine wpAnyH_done (by kernel_rfl) ?_ _
  have HF:Hid (WaitP X K vr cs S i c (.returned (.tuple #[])) (w4.setCell ⟨X.m,2,none⟩ (.slice (some ⟨g',0,none⟩) (cs.length+1) c4))):=hid (by
   refine⟨rfl,.slice (some ⟨g',0,none⟩) (cs.length+1) c4,?_⟩
   refine(H1.out.below (w':=(w.alloc (.cells #[takeV c] tG)).drew) (below_al (Below.refl _ _) _).drew).setWaiting (W:=S.waiting++ [i]) (cs':=cs++ [c]) hg4 ?_ (fun g e=>?_) (by simp [H1.out.cl]) (fun q h1 h2=>?_)
   ·rw [List.map_append,List.map_singleton];exact hrow4
   ·have e':some g'=some g:=e
    rcases hp4 with h1|h1
    ·exact .inl (h1.symm.trans e')
    ·exact .inr (by have:=Option.some.inj e';simp at h1 ⊢;omega)
   ·by_cases hq:q<cs.length
    ·rw [List.getElem_append_left hq,List.getElem_append_left (by rw [←H1.out.cl];exact hq)]
     exact H1.out.cw q hq (by rw [←H1.out.cl];exact hq)
    ·have hq2:q=cs.length:=by simp at h1;omega
     subst hq2
     refine⟨p,?_,?_⟩
     ·rw [List.getElem_append_right (by rw [←H1.out.cl];exact Nat.le_refl _)]
      simp [H1.out.cl];exact HP.out
     ·rw [List.getElem_append_right (Nat.le_refl _)]
      simp;exact HTK.out)
  clear hrow4 hg4 hp4 hX4 f4 e4 e7 e8
  go_wp2
  go_end0
  exact HF.out
 ·
  go_simp
  refine hK.out _ _ (by go_keep) (fun hHeld2=>?_)
  clear hK K hHeld;have hHeld:=hHeld2;clear hHeld2
  (try simp only [Act.put,List.setIfInBounds_toArray,List.set_cons_zero,List.set_cons_succ])
  refine wpAnyH_ready (rs:=[4]) (by kernel_rfl) (by simp) ?_
  refine AllReadyH.cons (o:={ dst:=some 6,op:=Op.load 153 (Operand.tmp 5),type:=153,pos:=_,after:=#[{ on:=3,ground:=Ground.data }],guard:=none }) rfl (fun K hK=>?_) AllReadyH.nil
  go_simp
  refine hK.out _ _ (by go_keep) (fun hHeld2=>?_)
  clear hK K hHeld;have hHeld:=hHeld2;clear hHeld2
  (try simp only [Act.put,List.setIfInBounds_toArray,List.set_cons_zero,List.set_cons_succ])
  refine wpAnyH_ready (rs:=[7]) (by kernel_rfl) (by simp) ?_
  refine AllReadyH.cons (o:={ dst:=some 9,op:=Op.call { callee:=Callee.builtin Builtin.append,args:=#[Operand.tmp 6,Operand.tmp 8],argTypes:=#[153,153] },type:=153,pos:=_,after:=#[{ on:=4,ground:=Ground.data },{ on:=6,ground:=Ground.data }],guard:=none }) rfl (fun K hK=>?_) AllReadyH.nil
  refine step_fn_append rfl _ _ 153 tG i0 (by rfl) Tryz.underlying153 hi hz0 hz1 hz2 X.w0.heap.size cs.length vw _ (by rfl) (RowR.alloc H1.out.rw _) (by simp) (takeV c) ⟨w.heap.size,0,none⟩ 1 (by rfl) (cell_of_one (heap_alloc_new _ _)) (by rfl) HN.out (by have:=H1.out.bel.size;simp;omega) (cs.length+1) rfl ?_
  intro g' c4 w4 hrow4 hg4 hp4
  have hX4:w4.heap[X.m]? =some (.cells #[.int .i64 S.pos,vr,vw] tS (0,0)):=(hg4.block _ (by simp;omega) (fun e=>(H1.out.dis.kw _ e.symm).2.1 rfl)).trans ((Below.heap_alloc _ _ _ hmlt).trans H1.out.hm)
  have f4:w4.frozen? ⟨X.m,2,none⟩=false:=frozen_of_row _ X.m 2 _ _ hX4
  have e4:w4.cell? ⟨X.m,2,none⟩=some vw:=by rw [cell_of_row _ X.m 2 _ _ _ hX4];rfl
  have e7:w4.cell? ⟨c,0,none⟩=some (ptr X.m):=cell_of_one ((hg4.block _ (by simp;omega) (fun e=>(by have:=(H1.out.dis.kw _ e.symm).1;rw [HK5.out]at this;cases this))).trans ((Below.heap_alloc _ _ _ hq5).trans (H1.out.hk _ _ HK5.out)))
  have e8:w4.cell? ⟨c+3,0,none⟩=some (takeV c):=cell_of_one ((hg4.block _ (by simp;omega) (fun e=>(by have:=(H1.out.dis.kw _ e.symm).1;rw [HK6.out]at this;cases this))).trans ((Below.heap_alloc _ _ _ hq6).trans (H1.out.hk _ _ HK6.out)))
  refine hK.out _ _ ⟨e7,e8⟩ (fun hHeld2=>?_)
  clear hK K hHeld;have hHeld:=hHeld2;clear hHeld2
  (try simp only [Act.put,List.setIfInBounds_toArray,List.set_cons_zero,List.set_cons_succ])
  refine wpAnyH_take (i:=8) (oi:={ dst:=some 10,op:=Op.nilCheck (Operand.tmp 2),type:=0,pos:=_,after:=#[{ on:=0,ground:=Ground.data },{ on:=0,ground:=Ground.phase },{ on:=1,ground:=Ground.phase },{ on:=2,ground:=Ground.phase },{ on:=3,ground:=Ground.phase },{ on:=4,ground:=Ground.phase },{ on:=5,ground:=Ground.phase },{ on:=6,ground:=Ground.phase },{ on:=7,ground:=Ground.phase }],guard:=none }) (v:=?vq8) rfl (by kernel_rfl) (by kernel_rfl) (by kernel_rfl) (fun _ _ _ h=>h) (Or.inl ⟨by rfl,?hyq8⟩) (by assumption) ?restq8
  case hyq8=>((intro w hSw;(try dsimp only at hSw);go_simp);try with_reducible rfl)
  case' restq8=>(try simp only [Act.put,List.setIfInBounds_toArray,List.set_cons_zero,List.set_cons_succ])
  refine wpAnyH_take (i:=9) (oi:={ dst:=some 11,op:=Op.fieldAddr 155 (Operand.tmp 10) 2,type:=0,pos:=_,after:=#[{ on:=8,ground:=Ground.data },{ on:=0,ground:=Ground.phase },{ on:=1,ground:=Ground.phase },{ on:=2,ground:=Ground.phase },{ on:=3,ground:=Ground.phase },{ on:=4,ground:=Ground.phase },{ on:=5,ground:=Ground.phase },{ on:=6,ground:=Ground.phase },{ on:=7,ground:=Ground.phase }],guard:=none }) (v:=?vq9) rfl (by kernel_rfl) (by kernel_rfl) (by kernel_rfl) (fun _ _ _ h=>h) (Or.inl ⟨by rfl,?hyq9⟩) (by assumption) ?restq9
  case hyq9=>((intro w hSw;(try dsimp only at hSw);go_simp);try with_reducible rfl)
  case' restq9=>(try simp only [Act.put,List.setIfInBounds_toArray,List.set_cons_zero,List.set_cons_succ])
  refine wpAnyH_ready (rs:=[10]) (by kernel_rfl) (by simp) ?_
  refine AllReadyH.cons (o:={ dst:=none,op:=Op.store 153 (Operand.tmp 11) (Operand.tmp 9),type:=0,pos:=_,after:=#[{ on:=9,ground:=Ground.data },{ on:=7,ground:=Ground.data },{ on:=7,ground:=Ground.chain },{ on:=0,ground:=Ground.phase },{ on:=1,ground:=Ground.phase },{ on:=2,ground:=Ground.phase },{ on:=3,ground:=Ground.phase },{ on:=4,ground:=Ground.phase },{ on:=5,ground:=Ground.phase },{ on:=6,ground:=Ground.phase },{ on:=7,ground:=Ground.phase }],guard:=none }) rfl (fun K hK=>?_) AllReadyH.nil
  go_simp
  refine hK.out _ _ (by go_keep) (fun hHeld2=>?_)
  clear hK K hHeld;have hHeld:=hHeld2;clear hHeld2
  (try simp only [Act.put,List.setIfInBounds_toArray,List.set_cons_zero,List.set_cons_succ])
  refine wpAnyH_done (by kernel_rfl) ?_ _
  have HF:Hid (WaitP X K vr cs S i c (.returned (.tuple #[])) (w4.setCell ⟨X.m,2,none⟩ (.slice (some ⟨g',0,none⟩) (cs.length+1) c4))):=hid (by
   refine⟨rfl,.slice (some ⟨g',0,none⟩) (cs.length+1) c4,?_⟩
   refine(H1.out.below (w':=(w.alloc (.cells #[takeV c] tG)).drew) (below_al (Below.refl _ _) _).drew).setWaiting (W:=S.waiting++ [i]) (cs':=cs++ [c]) hg4 ?_ (fun g e=>?_) (by simp [H1.out.cl]) (fun q h1 h2=>?_)
   ·rw [List.map_append,List.map_singleton];exact hrow4
   ·have e':some g'=some g:=e
    rcases hp4 with h1|h1
    ·exact .inl (h1.symm.trans e')
    ·exact .inr (by have:=Option.some.inj e';simp at h1 ⊢;omega)
   ·by_cases hq:q<cs.length
    ·rw [List.getElem_append_left hq,List.getElem_append_left (by rw [←H1.out.cl];exact hq)]
     exact H1.out.cw q hq (by rw [←H1.out.cl];exact hq)
    ·have hq2:q=cs.length:=by simp at h1;omega
     subst hq2
     refine⟨p,?_,?_⟩
     ·rw [List.getElem_append_right (by rw [←H1.out.cl];exact Nat.le_refl _)]
      simp [H1.out.cl];exact HP.out
     ·rw [List.getElem_append_right (Nat.le_refl _)]
      simp;exact HTK.out)
  clear hrow4 hg4 hp4 hX4 f4 e4 e7 e8
  go_wp2
  go_end0
  exact HF.out
theorem idx_mem (l:List UInt8)(c:UInt8):(c∈l∧0≤Lib.indexByte l c)∨(c ∉ l∧Lib.indexByte l c=-1):=by
 induction l with
 | nil=>exact .inr ⟨by simp,rfl⟩
 | cons b r ih =>
  unfold Lib.indexByte
  by_cases e:b=c
  ·subst e;exact .inl ⟨by simp,by simp⟩
  ·have hb:(b==c)=false:=by simpa using e
   rw [hb]
   rcases ih with ⟨h1,h2⟩|⟨h1,h2⟩
   ·left
    refine⟨by simp [h1],?_⟩
    have h3:(Lib.indexByte r c == -1)=false:=by simp;omega
    rw [h3];simp;omega
   ·right
    refine⟨by simp [h1];exact fun h=>e h.symm,?_⟩
    rw [h2];simp
theorem ref_fn (X:Cx)(L:List Pl)(r:Nat):∃k caps,refV X L r=.func (.func k) #[] caps:=by
 cases r with
 | zero=>exact⟨_,_,rfl⟩
 | succ j=>exact⟨_,_,rfl⟩
theorem nil_at {L:List Pl}{j:Nat}(hj:j+1≤L.length):∃p,L[j]? =some p:=⟨L[j],List.getElem?_eq_getElem (by omega)⟩
theorem take_any (h:Rep X K vr vw cs w S){c:Nat}{p:Pl}(hpm:p∈S.pl)(hk:TakeK X K S.pl p c)(x:UInt8)(hn:S.reached.length+1≤2147483648):Calls Tryz.prog 176 #[.int .u8 x.toNat,ptr (c+1),ptr (c+2)] w fun e w'=>e=.returned (.tuple #[])∧
  ((x∈p.t.x.text.data.toList∧∃vr',Rep X K vr' vw cs w' (call S p.nx))∨(x ∉ p.t.x.text.data.toList∧Rep X K vr vw cs w' S)):=by
 have e1:=cell_of_one (h.hk _ _ hk.1)
 have e2:=cell_of_one (h.hk _ _ hk.2)
 have hnx:=(h.pk p hpm).2
 have hI:∀w,Calls Tryz.prog 124 #[.string p.t.x.text,.int .u8 x.toNat] w fun e w'=>e=.returned (.int .i64 (Lib.indexByte p.t.x.text.data.toList x))∧w=w':=fun w=>(Tryz.strings_IndexByte _ _ _).mono fun e w' ⟨a,b⟩=>⟨by rw [a];simp,b.symm⟩
 have HI:=hid hI
 clear hI
 rcases idx_mem p.t.x.text.data.toList x with ⟨hm,hi⟩|⟨hm,hi⟩
 ·obtain⟨n,hnn⟩:∃n,n=Lib.indexByte p.t.x.text.data.toList x:=⟨_,rfl⟩
  rw [←hnn]at hi HI
  have HM:=hid hm
  clear hm hnn
  cases hx:p.nx with
  | zero =>
   rw [hx]at e2
   have e2':w.cell? ⟨c+2,0,none⟩=some (endPV X):=e2
   have HC:=hid (end_any h)
   clear h hk e2 hx hpm
   go_enter Tryz.func176,Tryz.ntmps176
   go_wp2_with (first
    |(go_at_call 124;refine(HI.out _).mono ?_;rintro e w' ⟨rfl,rfl⟩)
    |(go_at_call 117;refine HC.out.mono ?_;rintro e w' ⟨rfl,vr',hR⟩;have HR:=hid hR;clear hR))
   go_end0
   exact⟨rfl,.inl ⟨HM.out,vr',HR.out⟩⟩
  | succ j =>
   obtain⟨q,hq⟩:=nil_at (by rw [←hx];exact hnx)
   rw [hx]at e2
   have e2':w.cell? ⟨c+2,0,none⟩=some (placeV q.b):=by rw [e2];show some (placeV (bOf S.pl j))=_;rw [bOf_eq hq]
   have HC:=hid (place_any h hq hn)
   clear h hk e2 hx hpm hq
   go_enter Tryz.func176,Tryz.ntmps176
   go_wp2_with (first
    |(go_at_call 124;refine(HI.out _).mono ?_;rintro e w' ⟨rfl,rfl⟩)
    |(go_at_call 156;refine HC.out.mono ?_;rintro e w' ⟨rfl,vr',hR⟩;have HR:=hid hR;clear hR))
   go_end0
   exact⟨rfl,.inl ⟨HM.out,vr',HR.out⟩⟩
 ·rw [hi]at HI
  have HM:=hid hm
  have HR:=hid h
  clear h hk hpm hm hi
  go_enter Tryz.func176,Tryz.ntmps176
  go_wp2_with (go_at_call 124;refine(HI.out _).mono ?_;rintro e w' ⟨rfl,rfl⟩)
  go_end0
  exact⟨rfl,.inr ⟨HM.out,HR.out⟩⟩
theorem alloc_new_at (w:World)(o:Obj){b:Nat}(h:b=w.heap.size):(w.alloc o).heap[b]? =some o:=by rw [h];exact heap_alloc_new w o
theorem Rep.addNew (h:Rep X K vr vw cs w S)(o:Obj)(hc:o.isCells=true:=by rfl):Rep X (K.add w.heap.size o) vr vw cs (w.alloc o) S:=h.add (Nat.le_refl _) (below_al (Below.refl _ _) _) (heap_alloc_new w o) hc
theorem Kn.add_ne (K:Kn){b x:Nat}{o:Obj}(h:x≠b):K.add b o x=K x:=if_neg h
theorem Rep.le_new (h:Rep X K vr vw cs w S){o:Obj}:K.le (K.add w.heap.size o):=Kn.le_add (h.new_free (Nat.le_refl _))
theorem waitFor_any (h:Rep X K vr vw cs w S){p:Pl}(ch:ByteArray)(hch:ch=p.t.x.text):Calls Tryz.prog 157 #[ptr X.m,.string ch,refV X S.pl p.nx] w fun e w'=>e=.returned (waitV w.heap.size)∧
  ∃K',K.le K'∧Rep X K' vr vw cs w' S∧Below w.heap.size w w'∧VsK X K' S.pl p (waitV w.heap.size) .wait:=by
 obtain⟨k,caps,hv⟩:=ref_fn X S.pl p.nx
 have HV:=hid hv
 have HCH:=hid hch
 rw [hv]
 clear hv hch
 have r1:=h.addNew (bx (ptr X.m) tM)
 have r2:=r1.addNew (bx (.string ch) 9)
 have r3:=r2.addNew (bx (.func (.func k) #[] caps) tF)
 have r4:=r3.addNew (bx (takeV w.heap.size) tG)
 simp only [World.size_alloc]at r2 r3 r4
 have HF:Hid (∃K',K.le K'∧Rep X K' vr vw cs ((((w.alloc (bx (ptr X.m) tM)).alloc (bx (.string ch) 9)).alloc (bx (.func (.func k) #[] caps) tF)).alloc (bx (takeV w.heap.size) tG)) S∧Below w.heap.size w ((((w.alloc (bx (ptr X.m) tM)).alloc (bx (.string ch) 9)).alloc (bx (.func (.func k) #[] caps) tF)).alloc (bx (takeV w.heap.size) tG))∧VsK X K' S.pl p (waitV w.heap.size) .wait):=Lib.hid
  ⟨_,Kn.le_trans (Kn.le_trans (Kn.le_trans h.le_new (by have:=r1.le_new (o:=bx (.string ch) 9);simpa using this)) (by have:=r2.le_new (o:=bx (.func (.func k) #[] caps) tF);simpa using this)) (by have:=r3.le_new (o:=bx (takeV w.heap.size) tG);simpa using this),r4,below_al (below_al (below_al (below_al (Below.refl _ _) _) _) _) _,w.heap.size,rfl,by
   rw [Kn.add_ne _ (by omega),Kn.add_ne _ (by omega),Kn.add_ne _ (by omega),Kn.add_at],by rw [show w.heap.size+3=w.heap.size+1+1+1 by omega,Kn.add_at],by
   rw [Kn.add_ne _ (by omega),Kn.add_ne _ (by omega),Kn.add_at,HCH.out],by
   rw [Kn.add_ne _ (by omega),show w.heap.size+2=w.heap.size+1+1 by omega,Kn.add_at,HV.out]⟩
 clear r1 r2 r3 r4 h
 go_enter Tryz.func157,Tryz.ntmps157
 go_wp2
 go_ret
 exact⟨rfl,HF.out⟩
theorem onceB_any (m:Nat)(k:Nat)(caps:Array Value)(w:World):Calls Tryz.prog 133 #[ptr m,.func (.func k) #[] caps] w fun e w'=>e=.returned (.func (.func 156) #[] #[ptr (w.heap.size+1+1),ptr w.heap.size,ptr (w.heap.size+1)])∧w'=((w.alloc (bx (ptr m) tM)).alloc (bx (.func (.func k) #[] caps) tF)).alloc (bx (.int .i64 (-1)) 3):=by
 go_enter Tryz.func133,Tryz.ntmps133
 go_wp2
 go_ret
 exact⟨rfl,rfl⟩
theorem before_any (h:Rep X K vr vw cs w S){t:Pat}{e:Nat}{r:PatR}{nx:Nat}(hnx:nx≤S.pl.length)(hrd:RdN patK e X.w0 r t∧t.x.text.size≤9223372036854775807∧TxFit e t.kids):Calls Tryz.prog 116 #[ptr X.m,.agg #[.int .i64 r.op,.string r.text,r.kv],refV X S.pl nx] w fun e' w'=>e'=.returned (placeV w.heap.size)∧
  ∃K',K.le K'∧(∀x,x<w.heap.size→K' x=K x)∧Rep X K' vr vw cs w' { S with pl:=S.pl++ [⟨t,e,r,nx,w.heap.size,-1,none⟩] }∧Below w.heap.size w w':=by
 obtain⟨k,caps,hv⟩:=ref_fn X S.pl nx
 obtain⟨A,cap,hkv⟩:=hrd.1.2.form
 obtain⟨op,text,kv⟩:=r
 obtain rfl:kv=.slice A t.kids.length cap:=hkv
 obtain⟨n,hn⟩:∃n,n=t.kids.length:=⟨_,rfl⟩
 rw [←hn]at hrd ⊢
 have HV:=hid hv
 rw [hv]
 clear hv hn
 have HF:Hid (∀w',Below w.heap.size w w'→w'.heap[w.heap.size]? =some (bx (ptr X.m) tM)→w'.heap[w.heap.size+1]? =some (.cells #[.int .i64 op,.string text,.slice A n cap] 92 (0,0))→w'.heap[w.heap.size+2]? =some (bx (.func (.func k) #[] caps) tF)→w'.heap[w.heap.size+3]? =some (bx (placeV w.heap.size) tF)→
   w'.heap[w.heap.size+4]? =some (bx .nilFunc tF)→w'.heap[w.heap.size+5]? =some (bx (ptr X.m) tM)→w'.heap[w.heap.size+6]? =some (bx (visitV w.heap.size) tF)→w'.heap[w.heap.size+7]? =some (bx (.int .i64 (-1)) 3)→
   ∃K',K.le K'∧(∀x,x<w.heap.size→K' x=K x)∧Rep X K' vr vw cs w' { S with pl:=S.pl++ [⟨t,e,⟨op,text,.slice A n cap⟩,nx,w.heap.size,-1,none⟩] }∧Below w.heap.size w w'):=hid fun w' hB b0 b1 b2 b3 b4 b5 b6 b7=>by
  rw [←HV.out]at b2
  obtain⟨K',h1,h3,h2⟩:=h.place rfl hB hnx hrd b0 b1 b2 b3 b4 b5 b6 b7
  exact⟨K',h1,h3,h2,hB⟩
 have HO:=hid (fun w'=>onceB_any X.m 134 #[ptr (w.heap.size+4),ptr w.heap.size,ptr (w.heap.size+1),ptr (w.heap.size+3),ptr (w.heap.size+2)] w')
 clear h hrd
 go_enter Tryz.func116,Tryz.ntmps116
 go_wp2_with (go_at_call 133;refine(HO.out _).mono ?_;rintro e' w' ⟨rfl,rfl⟩)
 go_ret
 refine⟨rfl,HF.out _ ?_ ?_ ?_ ?_ ?_ ?_ ?_ ?_ ?_⟩
 ·exact below_al (below_al (below_al (below_al (below_al (below_al (below_al (below_al (Below.refl _ _) _) _) _) _) _) _) _) _
 all_goals
  repeat first
   |(refine alloc_new_at _ _ ?_;((try simp);done))
   |(rw [Below.heap_alloc _ _ _ ?hk];case hk=>(simp only [World.size_alloc];omega))
end
end
section
open Go.RowKit Mac

section
variable {X:Cx} {K K':Kn} {vr vw:Value} {cs:List Nat} {w w':World} {S:Mc}
theorem ref_any (h:Rep X K vr vw cs w S){r:Nat}(hr:r≤S.pl.length)(hn:S.reached.length+1≤2147483648){L:List Pl}(hL:refV X L r=refV X S.pl r):∃k caps,refV X L r=.func (.func k) #[] caps∧(∀w,(callFunc k caps).run Tryz.prog w=.ok (.enter k caps) w)∧Calls Tryz.prog k caps w (CallP X K vw cs S r):=by
 cases r with
 | zero=>exact⟨_,_,rfl,fun w=>enters_of Tryz.func117 (by kernel_rfl) rfl _ w,end_any h⟩
 | succ j =>
  obtain⟨q,hq⟩:=nil_at hr
  refine⟨_,_,by rw [hL];rfl,fun w=>enters_of Tryz.func156 (by kernel_rfl) rfl _ w,?_⟩
  have:=place_any h hq hn
  rw [←bOf_eq hq]at this
  exact this
theorem call_len (S:Mc)(r:Nat)(hr:r≤S.pl.length)(hv:∀(i:Nat) (p:Pl),S.pl[i]? =some p→p.vis≤S.pos):(call S r).pl.length=S.pl.length∧(call S r).pos=S.pos∧(call S r).waiting=S.waiting∧Same S.pl (call S r).pl∧(∀(i:Nat) (p:Pl),(call S r).pl[i]? =some p→p.vis≤S.pos)∧(call S r).reached.length+unv (call S r)≤S.reached.length+unv S:=by
 rcases call_spec S r hr hv with ⟨h1,h2⟩|⟨rfl,h2⟩|⟨i,p,rfl,hp,hlt,h2⟩
 ·rw [h2];exact⟨rfl,rfl,rfl,fun _ _=>rfl,hv,Nat.le_refl _⟩
 ·rw [h2];exact⟨rfl,rfl,rfl,fun _ _=>rfl,hv,Nat.le_refl _⟩
 ·rw [h2]
  refine⟨List.length_set,rfl,rfl,same_set hp rfl,fun j q hq=>?_,?_⟩
  ·rcases set_back hp hq with ⟨rfl,rfl⟩|⟨_,hq⟩
   ·exact Int.le_refl _
   ·exact hv j q hq
  ·have:=sumL_set (f:=uw S.pos) hp { p with vis:=S.pos }
   have h1:uw S.pos p=1:=by unfold uw;rw [if_pos hlt]
   have h2:uw S.pos { p with vis:=S.pos }=0:=by unfold uw;rw [if_neg (Int.lt_irrefl _)]
   show(S.reached++ [i]).length+sumL (uw S.pos) (S.pl.set i { p with vis:=S.pos })≤S.reached.length+sumL (uw S.pos) S.pl
   rw [List.length_append,List.length_singleton];omega
theorem calls_len:∀(l:List Nat) (S:Mc),(∀r,r∈l→r≤S.pl.length)→(∀(i:Nat) (p:Pl),S.pl[i]? =some p→p.vis≤S.pos)→(l.foldl call S).pl.length=S.pl.length∧(l.foldl call S).pos=S.pos∧(l.foldl call S).waiting=S.waiting∧Same S.pl (l.foldl call S).pl∧(∀(i:Nat) (p:Pl),(l.foldl call S).pl[i]? =some p→p.vis≤S.pos)∧(l.foldl call S).reached.length+unv (l.foldl call S)≤S.reached.length+unv S
 | [],S,_,hv=>⟨rfl,rfl,rfl,fun _ _=>rfl,hv,Nat.le_refl _⟩
 | r :: l, S, hl, hv => by
  obtain⟨a1,a2,a3,a4,a5,a6⟩:=call_len S r (hl r (by simp)) hv
  obtain⟨b1,b2,b3,b4,b5,b6⟩:=calls_len l (call S r) (fun q hq=>by rw [a1];exact hl q (by simp [hq])) (by rw [a2];exact a5)
  refine⟨b1.trans a1,b2.trans a2,b3.trans a3,fun j hj=>(b4 j (by rw [a1];exact hj)).trans (a4 j hj),?_,Nat.le_trans b6 a6⟩
  have:=b5;rw [a2]at this;exact this
def CallsP (X:Cx)(K:Kn)(vw:Value)(cs:List Nat)(S:Mc)(l:List Nat)(e:Ending)(w':World):Prop:=e=.returned (.tuple #[])∧∃vr',Rep X K vr' vw cs w' (l.foldl call S)
theorem or_any (h:Rep X K vr vw cs w S){r r' c c':Nat}(k1:K c=some (bx (refV X S.pl r) tF))(k2:K c'=some (bx (refV X S.pl r') tF))(hr:r≤S.pl.length)(hr':r'≤S.pl.length)(hv:∀(i:Nat) (p:Pl),S.pl[i]? =some p→p.vis≤S.pos)(hn:S.reached.length+unv S+1≤2147483648):
  Calls Tryz.prog 180 #[ptr c,ptr c'] w (CallsP X K vw cs S [r,r']):=by
 obtain⟨a1,a2,a3,a4,a5,a6⟩:=call_len S r hr hv
 obtain⟨k,caps,e1,hen1,hc1⟩:=ref_any h hr (by omega) (L:=S.pl) rfl
 have c1:=cell_of_one (h.hk _ _ k1)
 rw [e1]at c1
 have H2:Hid (∀w1 vr1,Rep X K vr1 vw cs w1 (call S r)→∃k caps,w1.cell? ⟨c',0,none⟩=some (.func (.func k) #[] caps)∧(∀w,(callFunc k caps).run Tryz.prog w=.ok (.enter k caps) w)∧Calls Tryz.prog k caps w1 (CallP X K vw cs (call S r) r')):=hid fun w1 vr1 h1=>by
  obtain⟨k',caps',e2,hen2,hc2⟩:=ref_any h1 (r:=r') (by rw [a1];exact hr') (by omega) (L:=S.pl) (ref_same a4 hr').symm
  refine⟨k',caps',?_,hen2,hc2⟩
  rw [←e2];exact cell_of_one (h1.hk _ _ k2)
 have HC1:=hid hc1
 clear h hc1 k1 k2 a1 a2 a3 a4 a5 a6 hv e1
 go_enter Tryz.func180,Tryz.ntmps180
 go_wp2_with fail
 refine HC1.out.mono ?_
 rintro e w1 ⟨rfl,vr1,h1⟩
 obtain⟨k',caps',e2,hen2,hc2⟩:=H2.out w1 vr1 h1
 have HC2:=hid hc2
 clear h1 hc2
 go_wp2_with fail
 refine HC2.out.mono ?_
 rintro e w2 ⟨rfl,vr2,h2⟩
 have HR:=hid h2
 clear h2
 go_wp2
 go_end0
 exact⟨rfl,vr2,HR.out⟩
theorem each_any (h:Rep X K vr vw cs w S){l:List Nat}{c b cap:Nat}{cur:Array Value}(k1:K c=some (bx (.slice (some ⟨b,0,none⟩) l.length cap) 152))(k2:K b=some (.cells cur tF (0,0)))(hcur:∀q (h:q<l.length),cur[q]? =some (refV X S.pl l[q]))(hll:l.length≤2147483648)
  (hl:∀r,r∈l→r≤S.pl.length) (hv:∀(i:Nat) (p:Pl),S.pl[i]? =some p→p.vis≤S.pos) (hn:S.reached.length+unv S+1≤2147483648):
  Calls Tryz.prog 179 #[ptr c] w (CallsP X K vw cs S l):=by
 have c1:=cell_of_one (h.hk _ _ k1)
 obtain⟨n,hnn⟩:∃n,n=l.length:=⟨_,rfl⟩
 have HN:=hid hnn
 rw [←hnn]at c1 hll
 have HC:Hid (∀k,k<n→∀wr vr',Rep X K vr' vw cs wr ((l.take k).foldl call S)→∃f caps,wr.cell? ⟨b,k,none⟩=some (.func (.func f) #[] caps)∧(∀w,(callFunc f caps).run Tryz.prog w=.ok (.enter f caps) w)∧Calls Tryz.prog f caps wr fun e w'=>e=.returned (.tuple #[])∧∃vr'',Rep X K vr'' vw cs w' ((l.take (k+1)).foldl call S)):=hid fun k hk wr vr' hR=>by
  obtain⟨a1,a2,a3,a4,a5,a6⟩:=calls_len (l.take k) S (fun r hr=>hl r (List.mem_of_mem_take hr)) hv
  have hkl:k<l.length:=by omega
  have hrk:=hl _ (List.getElem_mem hkl)
  obtain⟨f,caps,e1,hen,hc⟩:=ref_any hR (r:=l[k]) (by rw [a1];exact hrk) (by omega) (L:=S.pl) (ref_same a4 hrk).symm
  refine⟨f,caps,?_,hen,hc.mono ?_⟩
  ·rw [←e1,cell_of_row _ b k _ _ _ (hR.hk _ _ k2)];exact hcur k hkl
  ·rintro e w' ⟨rfl,vr'',hR'⟩
   refine⟨rfl,vr'',?_⟩
   rw [List.take_succ_eq_append_getElem hkl,List.foldl_append]
   exact hR'
 have H0:Hid (∃vr',Rep X K vr' vw cs w ((l.take 0).foldl call S)):=hid ⟨vr,h⟩
 clear h k1 k2 hcur hl hv hn hnn
 go_enter Tryz.func179,Tryz.ntmps179
 go_wp2
 go_loopw [5] (fun i wr=>∃k:Nat,k≤n∧i=.int .i64 k∧Hid (∃vr',Rep X K vr' vw cs wr ((l.take k).foldl call S))) (fun i _=>n-(intOf i).toNat)
 case atStart=>exact⟨0,Nat.zero_le _,rfl,H0⟩
 case round=>
  clear H0
  obtain⟨k,hk,rfl,HR⟩:=hrel
  by_cases hlt:k<n
  ·obtain⟨vr',hR⟩:=HR.out
   obtain⟨f,caps,hcell,hen,hcall⟩:=HC.out k hlt wr vr' hR
   have HCALL:=hid hcall
   clear hR hcall HR
   go_wp2_with fail
   refine HCALL.out.mono ?_
   rintro e w1 ⟨rfl,vr'',hR'⟩
   have HR':Hid (∃vr',Rep X K vr' vw cs w1 ((l.take (k+1)).foldl call S)):=hid ⟨vr'',hR'⟩
   clear hR' HCALL hcell hen
   go_wp2
   go_roundw
   case rel=>exact⟨k+1,by omega,by go_num,HR'⟩
   case measure=>simp [intOf];omega
  ·have HF:Hid (CallsP X K vw cs S l (.returned (.tuple #[])) wr):=hid (by
    obtain⟨vr',hR⟩:=HR.out
    rw [List.take_of_length_le (by have:=HN.out;omega)]at hR
    exact⟨rfl,vr',hR⟩)
   clear HR HC
   go_wp2
   go_end0
   exact HF.out
def afterV (S:Mc)(i:Nat):Vs→Mc
 | .wait=>{ S with waiting:=S.waiting++ [i] }
 | .ways l=>l.foldl call S
def VisP (X:Cx)(K:Kn)(S:Mc)(i:Nat)(sh:Vs)(e:Ending)(w':World):Prop:=e=.returned (.tuple #[])∧∃vr' vw' cs',Rep X K vr' vw' cs' w' (afterV S i sh)
theorem vis_any (h:Rep X K vr vw cs w S){i:Nat}{p:Pl}(hp:S.pl[i]? =some p){g:Value}{sh:Vs}(hk:VsK X K S.pl p g sh)(hl:∀l,sh=.ways l→∀r,r∈l→r≤S.pl.length)(hv:∀(i:Nat) (p:Pl),S.pl[i]? =some p→p.vis≤S.pos)(hn:S.reached.length+unv S+1≤2147483648)(hn2:S.waiting.length+1≤2147483648):
  ∃f caps,g=.func (.func f) #[] caps∧(∀w,(callFunc f caps).run Tryz.prog w=.ok (.enter f caps) w)∧Calls Tryz.prog f caps w (VisP X K S i sh):=by
 cases sh with
 | wait =>
  obtain⟨c,rfl,k1,k2,k3⟩:=hk
  refine⟨_,_,rfl,fun w=>enters_of Tryz.func177 (by kernel_rfl) rfl _ w,(wait_any h hp k1 k2 k3 hn2).mono ?_⟩
  rintro e w' ⟨rfl,vw',hR⟩
  exact⟨rfl,vr,vw',_,hR⟩
 | ways l =>
  have hl':=hl l rfl
  rcases hk with ⟨r,rfl,rfl⟩|⟨c,b,cap,cur,rfl,hll,k1,k2,k3⟩|⟨r,r',c,c',rfl,rfl,k1,k2⟩|⟨rfl,rfl⟩
  ·obtain⟨f,caps,e1,hen,hc⟩:=ref_any h (hl' r (by simp)) (by omega) (L:=S.pl) rfl
   refine⟨f,caps,e1,hen,hc.mono ?_⟩
   rintro e w' ⟨rfl,vr',hR⟩
   exact⟨rfl,vr',vw,cs,hR⟩
  ·refine⟨_,_,rfl,fun w=>enters_of Tryz.func179 (by kernel_rfl) rfl _ w,(each_any h k1 k2 k3 hll hl' hv hn).mono ?_⟩
   rintro e w' ⟨rfl,vr',hR⟩
   exact⟨rfl,vr',vw,cs,hR⟩
  ·refine⟨_,_,rfl,fun w=>enters_of Tryz.func180 (by kernel_rfl) rfl _ w,(or_any h k1 k2 (hl' r (by simp)) (hl' r' (by simp)) hv hn).mono ?_⟩
   rintro e w' ⟨rfl,vr',hR⟩
   exact⟨rfl,vr',vw,cs,hR⟩
  ·refine⟨_,_,rfl,fun w=>enters_of Tryz.func161 (by kernel_rfl) rfl _ w,?_⟩
   have HF:Hid (VisP X K S i (.ways []) (.returned (.tuple #[])) w):=hid ⟨rfl,vr,vw,cs,h⟩
   clear h hl hv
   go_enter Tryz.func161,Tryz.ntmps161
   go_wp2
   go_end0
   exact HF.out
end
end
section
open Go.RowKit Mac

section
variable {X:Cx} {K K':Kn} {vr vw:Value} {cs:List Nat} {w w':World} {S:Mc}
def TryP (X:Cx)(K:Kn)(vr vw:Value)(cs:List Nat)(S:Mc)(p:Pl)(l:List Pat)(behind:Nat)(w:World)(e:Ending)(w':World):Prop:=
 ∃ K' nn sh g, e = .returned g ∧ K.le K' ∧ Rep X K' vr vw cs w' { S with pl := S.pl ++ nn } ∧ Below w.heap.size w w' ∧ VsK X K' (S.pl ++ nn) p g sh ∧ Tries (S.pl ++ nn) l behind p.nx sh ∧
  (nn=[]∨∃k d r b,l=[k]∧p.e=d+1∧nn=[⟨k,d,r,behind,b,-1,none⟩]∧DeepL d k.kids)
theorem kid_at {d:Nat}{v:Value}{l:List Pat}{w0:World}(h:RdL patK (d+1) w0 v l)(hf:TxFit (d+1) l){i:Nat}(hi:i<l.length):∃(a:Addr) (cap:Nat) (r:PatR),v=.slice (some a) l.length cap∧(a.add (i*3)).block<w0.heap.size∧Pk w0 (a.add (i*3)) r∧RdN patK d w0 r l[i]∧l[i].x.text.size≤9223372036854775807∧TxFit d l[i].kids:=by
 obtain⟨R,⟨A,cap,hv,hn,hc⟩,hl,hk⟩:=h
 have hiR:i<R.length:=Nat.lt_of_lt_of_eq hi hl.symm
 obtain⟨a,ha,hb,hp⟩:=HasP.pk hc i hiR
 obtain⟨h1,h2⟩:=hf l[i] (List.getElem_mem hi)
 exact⟨a,cap,R[i],by rw [←hl,←ha];exact hv,hb,hp,hk i hiR hi,h1,h2⟩
theorem Rep.pk' (h:Rep X K vr vw cs w S){a:Addr}{r:PatR}(hp:Pk X.w0 a r)(ha:a.block<X.w0.heap.size):Pk w a r:=Pk.below hp h.bel ha
theorem tryOne_any (h:Rep X K vr vw cs w S){p:Pl}{kv:Value}{t:Pat}{d behind:Nat}(hrd:RdL patK (d+1) X.w0 kv [t])(hf:TxFit (d+1) [t])(he:p.e=d+1)(hb:behind≤S.pl.length)(hnx:p.nx≤S.pl.length):
  Calls Tryz.prog 160 #[ptr X.m,kv,refV X S.pl behind,refV X S.pl p.nx] w (TryP X K vr vw cs S p [t] behind w):=by
 obtain⟨k1,caps1,e1⟩:=ref_fn X S.pl p.nx
 obtain⟨k2,caps2,e2⟩:=ref_fn X S.pl behind
 obtain⟨a,cap,r,rfl,hab,hpk,hrn,ht1,ht2⟩:=kid_at hrd hf (i:=0) (by simp)
 have ea:a.add (0*3)=a:=by rw [Nat.zero_mul];unfold Addr.add;rfl
 rw [ea]at hab hpk
 have h1:=h.addNew (bx (.func (.func k1) #[] caps1) tF)
 have hlt:w.heap.size<(w.alloc (bx (.func (.func k1) #[] caps1) tF)).heap.size:=by simp
 obtain⟨c0,c1,c2⟩:=h1.pk' hpk hab
 have hdk:DeepL d t.kids:=by have:=rd_deep hrd;exact this t (by simp)
 have HBF:=hid (before_any h1 (t:=t) (e:=d) (r:=r) (nx:=behind) hb ⟨hrn,ht1,ht2⟩)
 rw [e2]at HBF
 have HFIN:Hid (∀w2 K2,K.le K2→(∀x,x<w.heap.size+1→K2 x=K.add w.heap.size (bx (.func (.func k1) #[] caps1) tF) x)→Rep X K2 vr vw cs w2 { S with pl:=S.pl++ [⟨t,d,r,behind,w.heap.size+1,-1,none⟩] }→Below (w.heap.size+1) (w.alloc (bx (.func (.func k1) #[] caps1) tF)) w2→TryP X K vr vw cs S p [t] behind w (.returned (orV w2.heap.size w.heap.size)) (w2.alloc (bx (placeV (w.heap.size+1)) tF))):=hid fun w2 K2 hle hsm hR hB=>by
  have hz:w.heap.size+1≤w2.heap.size:=by have:=hB.size;simpa using this
  refine⟨K2.add w2.heap.size (bx (placeV (w.heap.size+1)) tF),[⟨t,d,r,behind,w.heap.size+1,-1,none⟩],.ways [S.pl.length+1,p.nx],orV w2.heap.size w.heap.size,rfl,Kn.le_trans hle (by exact hR.le_new),hR.addNew _,?_,?_,?_,.inr ⟨t,d,r,w.heap.size+1,rfl,he,rfl,hdk⟩⟩
  ·exact below_al (below_step (below_al (Below.refl _ _) _) (hB.mono (by simp))) _
  ·refine .inr (.inr (.inl ⟨S.pl.length+1,p.nx,w2.heap.size,w.heap.size,rfl,rfl,?_,?_⟩))
   ·rw [Kn.add_at]
    show _=some (bx (placeV (bOf _ S.pl.length)) tF)
    rw [bOf_eq (p:=⟨t,d,r,behind,w.heap.size+1,-1,none⟩) (by simp)]
   ·rw [Kn.add_ne _ (by omega),hsm _ (by omega),Kn.add_at,ref_same (same_app _ _) hnx,e1]
  ·exact⟨S.pl.length+1,rfl,S.pl.length,⟨t,d,r,behind,w.heap.size+1,-1,none⟩,rfl,by simp,rfl,rfl⟩
 have hle0:=hid (h.le_new (o:=bx (.func (.func k1) #[] caps1) tF))
 rw [e1,e2]
 clear h h1 hrd hpk hrn ht1 ht2 hf he hb hnx e1 e2 hdk
 go_enter Tryz.func160,Tryz.ntmps160
 go_wp2_with fail
 refine HBF.out.mono ?_
 rintro e w2 ⟨rfl,K2,hle,hsm,hR,hB⟩
 have HF:=hid (HFIN.out w2 K2 (Kn.le_trans hle0.out hle) (fun x hx=>hsm x (by simp;omega)) (by simpa using hR) (by simpa using hB))
 clear hle hsm hR hB
 go_wp2
 go_ret
 exact HF.out
theorem trySkip_any (h:Rep X K vr vw cs w S){p:Pl}{A:Option Addr}{cap behind:Nat}{l:List Pat}(hl:l.length≠1)(hnx:p.nx≤S.pl.length):
  Calls Tryz.prog 160 #[ptr X.m,.slice A l.length cap,refV X S.pl behind,refV X S.pl p.nx] w (TryP X K vr vw cs S p l behind w):=by
 obtain⟨k1,caps1,e1⟩:=ref_fn X S.pl p.nx
 obtain⟨k2,caps2,e2⟩:=ref_fn X S.pl behind
 obtain⟨n,hn⟩:∃n,n=l.length:=⟨_,rfl⟩
 have HF:Hid (TryP X K vr vw cs S p l behind w (.returned (.func (.func k1) #[] caps1)) (w.alloc (bx (.func (.func k1) #[] caps1) tF))):=Lib.hid
  ⟨K,[],.ways [p.nx],_,rfl,K.le_refl,by rw [List.append_nil];exact h.below (below_al (Below.refl _ _) _),below_al (Below.refl _ _) _,.inl ⟨p.nx,rfl,by rw [List.append_nil,e1]⟩,by
   unfold Tries
   split
   ·exact absurd rfl hl
   ·rfl,.inl rfl⟩
 have hq:(((n:Nat):Int) != 1)=true:=by simp;omega
 rw [e1,e2,←hn]
 clear h hl hn e1 e2
 go_enter Tryz.func160,Tryz.ntmps160
 go_wp2
 go_ret
 exact HF.out
structure Free (X:Cx) (K:Kn) (vr vw:Value) (L:List Pl) (b:Nat):Prop where
 k:K b=none
 m:b≠X.m
 e:b≠X.e
 r:vr.ownBlock≠some b
 w:vw.ownBlock≠some b
 p:∀p,p∈L→b≠p.b+4∧b≠p.b+7
theorem Rep.free_new (h:Rep X K vr vw cs w S){b:Nat}(hb:w.heap.size≤b):Free X K vr vw S.pl b:=by
 refine⟨h.new_free hb,?_,?_,fun e=>?_,fun e=>?_,fun p hp=>⟨?_,?_⟩⟩
 ·have:=blk_lt h.hm;omega
 ·have:=blk_lt h.he;omega
 ·have:=(h.own_r e).2;omega
 ·have:=(h.own_w e).2;omega
 ·obtain⟨u,a,_⟩:=h.hg p hp;have:=blk_lt a;omega
 ·have:=blk_lt (h.h7 p hp);omega
theorem Free.place {L:List Pl}{b:Nat}(h:Free X K vr vw L b)(hk:K' b=K b){q:Pl}(hq:b<q.b):Free X K' vr vw (L++ [q]) b:=
 ⟨by rw [hk];exact h.k,h.m,h.e,h.r,h.w,fun p hp=>by
  rcases List.mem_append.1 hp with hp|hp
  ·exact h.p p hp
  ·rw [List.mem_singleton.1 hp];exact⟨by omega,by omega⟩⟩
theorem Rep.addFree (h:Rep X K vr vw cs w S){b:Nat}{o:Obj}(ho:w.heap[b]? =some o)(hc:o.isCells=true)(hf:Free X K vr vw S.pl b):Rep X (K.add b o) vr vw cs w S:=h.addOld ho hc hf.k hf.m hf.e hf.r hf.w hf.p
theorem Free.add {L:List Pl}{b b':Nat}{o:Obj}(h:Free X K vr vw L b)(hne:b≠b'):Free X (K.add b' o) vr vw L b:=⟨by rw [Kn.add_ne _ hne];exact h.k,h.m,h.e,h.r,h.w,h.p⟩
theorem Rep.off (h:Rep X K vr vw cs w S){Z:Nat→Prop}(hB:Below X.w0.heap.size w w')(hf:∀b,b<w.heap.size→¬Z b→w'.heap[b]? =w.heap[b]?)(hz:∀b,Z b→Free X K vr vw S.pl b):Rep X K vr vw cs w' S:=by
 have kb:∀b (o:Obj),w.heap[b]? =some o→¬Z b→w'.heap[b]? =some o:=fun b o ho hz=>(hf b (blk_lt ho) hz).trans ho
 refine⟨h.dis,h.bel.trans hB,fun b o hk=>kb b o (h.hk b o hk) (fun e=>by rw [(hz b e).k]at hk;cases hk),kb _ _ h.hm (fun e=>(hz _ e).m rfl),kb _ _ h.he (fun e=>(hz _ e).e rfl),h.hv,rowR_frame h.rr fun b hb=>hf b (h.own_r hb).2 (fun e=>(hz b e).r hb),rowR_frame h.rw fun b hb=>hf b (h.own_w hb).2 (fun e=>(hz b e).w hb),h.cl,h.cw,h.pk,fun p hp=>?_,fun p hp=>kb _ _ (h.h7 p hp) (fun e=>((hz _ e).p p hp).2 rfl),h.rd,h.rl,h.kc⟩
 obtain⟨g,a,b⟩:=h.hg p hp
 exact⟨g,kb _ _ a (fun e=>((hz _ e).p p hp).1 rfl),b⟩
theorem Rep.turned (h:Rep X K vr vw cs w S){row:Option Nat}(hg:w.grownBy w' row)(hr:∀r,row=some r→X.w0.heap.size≤r∧∃o:Obj,w.heap[r]? =some o∧o.isCells=false):Rep X K vr vw cs w' S:=by
 have hno:∀b (o:Obj),w.heap[b]? =some o→o.isCells=true→row≠some b:=fun b o ho hc e=>by
  obtain⟨_,o',h1,h2⟩:=hr b e
  rw [ho]at h1;cases h1
  rw [hc]at h2;cases h2
 refine h.off (Z:=fun b=>row=some b) ((Below.refl _ _).grown hg h.bel.size (fun r e=>(hr r e).1)) (fun b hb hz=>hg.block b hb (fun e=>hz e.symm)) (fun b hz=>⟨?_,fun e=>?_,fun e=>?_,fun e=>?_,fun e=>?_,fun p hp=>⟨fun e=>?_,fun e=>?_⟩⟩)
 ·cases e:K b with
  | none=>rfl
  | some o=>exact absurd hz (hno b o (h.hk b o e) (h.kc b o e))
 ·exact hno b _ (by rw [e];exact h.hm) rfl hz
 ·exact hno b _ (by rw [e];exact h.he) rfl hz
 ·rcases h.rr.2 with ⟨h0,_⟩|⟨g,cap,cur,hv,_,hgb,_⟩
  ·rw [h0]at e;cases e
  ·rw [hv]at e;have e':g=b:=Option.some.inj e
   exact hno b _ (by rw [←e'];exact hgb) rfl hz
 ·rcases h.rw.2 with ⟨h0,_⟩|⟨g,cap,cur,hv,_,hgb,_⟩
  ·rw [h0]at e;cases e
  ·rw [hv]at e;have e':g=b:=Option.some.inj e
   exact hno b _ (by rw [←e'];exact hgb) rfl hz
 ·obtain⟨g,a,_⟩:=h.hg p hp
  exact hno b _ (by rw [e];exact a) rfl hz
 ·exact hno b _ (by rw [e];exact h.h7 p hp) rfl hz
structure Kids (S:Mc) (p:Pl) (l:List Pat) (nn:List Pl):Prop where
 len:nn.length≤l.length
 each:∀q (h:q<nn.length) (h':q<l.length),nn[q].t=l[q]∧nn[q].nx=p.nx∧nn[q].vis=-1∧nn[q].sh=none∧nn[q].e+1=p.e∧DeepL nn[q].e nn[q].t.kids
def EachI (X:Cx)(K:Kn)(vr vw:Value)(cs:List Nat)(S:Mc)(p:Pl)(l:List Pat)(w:World)(k:Nat)(vway:Value)(wr:World):Prop:=
 ∃ K1 nn, K.le K1 ∧ Rep X K1 vr vw cs wr { S with pl := S.pl ++ nn } ∧ nn.length = k ∧ Kids S p l nn ∧ RowV tF w.heap.size wr vway (nn.map fun q => placeV q.b) ∧ wr.heap[w.heap.size + 1]? = some (bx vway 152 ) ∧
  Free X K1 vr vw (S.pl++nn) (w.heap.size+1)∧(∀g,vway.ownBlock=some g→g≠w.heap.size+1∧Free X K1 vr vw (S.pl++nn) g)∧Below w.heap.size w wr
def EachP (X:Cx)(K:Kn)(vr vw:Value)(cs:List Nat)(S:Mc)(p:Pl)(l:List Pat)(w:World)(e:Ending)(w':World):Prop:=
 ∃K' nn sh g,e=.returned g∧K.le K'∧Rep X K' vr vw cs w' { S with pl:=S.pl++nn }∧Below w.heap.size w w'∧VsK X K' (S.pl++nn) p g sh∧nn.length=l.length∧Kids S p l nn∧sh=.ways ((List.range l.length).map fun q=>S.pl.length+q+1)
theorem eachI_end {p:Pl}{l:List Pat}{vway:Value}{wr:World}(h:EachI X K vr vw cs S p l w l.length vway wr)(hl:l.length≤2147483648)(hnil:vway≠.slice none 0 0):EachP X K vr vw cs S p l w (.returned (eachV (w.heap.size+1))) wr:=by
 obtain⟨K1,nn,hle,hR,hnl,hk,hrow,hX,hf1,hf2,hB⟩:=h
 have hrow':=hrow
 rcases hrow.2 with ⟨h0,_⟩|⟨g,cap,cur,hv,hg0,hgb,h3,h4,h5,h6⟩
 ·exact absurd h0 hnil
 ·obtain⟨g1,g2⟩:=hf2 g (by rw [hv];rfl)
  have hR2:=(hR.addFree hgb rfl g2).addFree hX rfl (hf1.add (fun e=>g1 e.symm))
  refine⟨_,nn,.ways ((List.range l.length).map fun q=>S.pl.length+q+1),eachV (w.heap.size+1),rfl,Kn.le_trans hle (Kn.le_trans (Kn.le_add g2.k) (Kn.le_add (by rw [Kn.add_ne _ (fun e=>g1 e.symm)];exact hf1.k))),hR2,hB,.inr (.inl ⟨w.heap.size+1,g,cap,cur,rfl,by simpa using hl,?_,?_,fun q hq=>?_⟩),hnl,hk,rfl⟩
  ·rw [Kn.add_at,hv];simp [hnl]
  ·rw [Kn.add_ne _ g1,Kn.add_at]
  ·have hq':q<nn.length:=by rw [hnl];simpa using hq
   have e1:((List.range l.length).map fun q=>S.pl.length+q+1)[q]=S.pl.length+q+1:=by simp
   rw [e1]
   show _=some (placeV (bOf (S.pl++nn) (S.pl.length+q)))
   rw [bOf_eq (p:=nn[q]) (by rw [List.getElem?_append_right (by omega),Nat.add_sub_cancel_left,List.getElem?_eq_getElem hq'])]
   have h7:cur.toList[q]? =some (placeV nn[q].b):=by
    have h8:=congrArg (fun z=>z[q]?) h6
    rw [List.getElem?_take_of_lt (by simp;omega)]at h8
    rw [h8]
    simp [List.flatMap_singleton',hq']
   simpa using h7
theorem eachI_step {p:Pl}{l:List Pat}{vway:Value}{wr:World}{k:Nat}(h:EachI X K vr vw cs S p l w k vway wr){r:PatR}{t:Pat}{d:Nat}(hlt:k<l.length)(ht:t=l[k])(he:p.e=d+1)(hrd:RdN patK d X.w0 r t∧t.x.text.size≤9223372036854775807∧TxFit d t.kids)(hdt:DeepL d t.kids)(hnx:p.nx≤S.pl.length)(hw0:X.w0.heap.size≤w.heap.size):
  ∃ ways : List Value, ways.length = k ∧ ∀ W, Below wr.heap.size wr W → Calls Tryz.prog 116 #[ptr X.m, .agg #[.int .i64 r.op, .string r.text, r.kv], refV X S.pl p.nx] W fun e w2 => e = .returned (placeV W.heap.size) ∧ Below W.heap.size W w2 ∧ Hid (RowV tF w.heap.size w2 vway ways) ∧
   Hid (∀g' c4 w4 o,RowV tF w.heap.size w4 (.slice (some ⟨g',0,none⟩) (k+1) c4) (ways++ [placeV W.heap.size])→(w2.alloc o).grownBy w4 vway.ownBlock→(some g'=vway.ownBlock∨g'=(w2.alloc o).heap.size)→EachI X K vr vw cs S p l w (k+1) (.slice (some ⟨g',0,none⟩) (k+1) c4) (w4.setCell ⟨w.heap.size+1,0,none⟩ (.slice (some ⟨g',0,none⟩) (k+1) c4))):=by
 obtain⟨K1,nn,hle,hR,hnl,hk,hrow,hX,hf1,hf2,hB⟩:=h
 refine⟨nn.map fun q=>placeV q.b,by simp [hnl],fun W hW=>?_⟩
 have hRW:=hR.below hW
 have hnx':p.nx≤(S.pl++nn).length:=by rw [List.length_append];omega
 have e0:refV X (S.pl++nn) p.nx=refV X S.pl p.nx:=ref_same (same_app _ _) hnx
 have hb:=before_any hRW (t:=t) (e:=d) (r:=r) (nx:=p.nx) hnx' hrd
 rw [e0]at hb
 refine hb.mono ?_
 rintro e w2 ⟨rfl,K2,hle2,hsm,hR2,hB2⟩
 have hWs:=hW.size
 have hBw:=hB.size
 have hXlt:=blk_lt hX
 refine⟨rfl,hB2,hid ((hrow.below hW).below hB2),hid fun g' c4 w4 o hrow4 hg4 hp4=>?_⟩
 have hw2:=hB2.size
 have hrl:∀g,vway.ownBlock=some g→w.heap.size≤g∧g<wr.heap.size:=fun g hg=>hrow.lt hg
 have hX2:w2.heap[w.heap.size+1]? =some (bx vway 152):=(hB2.block _ (by omega)).trans ((hW.block _ hXlt).trans hX)
 have hX4:w4.heap[w.heap.size+1]? =some (bx vway 152):=(hg4.block _ (by simp;omega) (fun e=>(hf2 _ e.symm).1 rfl)).trans ((Below.heap_alloc _ _ _ (by omega)).trans hX2)
 have F1:Free X K2 vr vw ((S.pl++nn)++ [⟨t,d,r,p.nx,W.heap.size,-1,none⟩]) (w.heap.size+1):=hf1.place (hsm _ (by omega)) (by show _<W.heap.size;omega)
 have F2:∀g,vway.ownBlock=some g→Free X K2 vr vw ((S.pl++nn)++ [⟨t,d,r,p.nx,W.heap.size,-1,none⟩]) g:=fun g hg=>(hf2 g hg).2.place (hsm _ (by have:=(hrl g hg).2;omega)) (by show g<W.heap.size;have:=(hrl g hg).2;omega)
 have hBo:Below X.w0.heap.size w2 (w4.setCell ⟨w.heap.size+1,0,none⟩ (.slice (some ⟨g',0,none⟩) (k+1) c4)):=by
  have h0:X.w0.heap.size≤w2.heap.size:=hR2.bel.size
  have hA:Below X.w0.heap.size w2 (w2.alloc o):=(Below.refl _ _).alloc h0 o
  have hG:Below X.w0.heap.size w2 w4:=hA.grown hg4 (Nat.le_trans h0 hA.size) (fun g hg=>Nat.le_trans hw0 (hrl g hg).1)
  exact hG.setCell (p:=⟨w.heap.size+1,0,none⟩) (Nat.le_trans hw0 (Nat.le_succ _)) _
 refine⟨K2,nn++ [⟨t,d,r,p.nx,W.heap.size,-1,none⟩],Kn.le_trans hle hle2,?_,by simp [hnl],⟨by simp;omega,fun q hq hq'=>?_⟩,?_,one_setCell hX4,by rw [←List.append_assoc];exact F1,fun g hg=>?_,?_⟩
 ·rw [←List.append_assoc]
  refine hR2.off (Z:=fun b=>b=w.heap.size+1∨vway.ownBlock=some b) hBo (fun b hb hz=>?_) (fun b hz=>?_)
  ·rw [Below.heap_setCell _ _ _ _ (fun e=>hz (.inl e))]
   exact(hg4.block _ (by simp;omega) (fun e=>hz (.inr e.symm))).trans (Below.heap_alloc _ _ _ hb)
  ·rcases hz with rfl|hz
   ·exact F1
   ·exact F2 b hz
 ·by_cases hq2:q<nn.length
  ·rw [List.getElem_append_left hq2];exact hk.each q hq2 hq'
  ·have hq3:q=nn.length:=by simp at hq;omega
   subst hq3
   have e9:(nn++ [(⟨t,d,r,p.nx,W.heap.size,-1,none⟩:Pl)])[nn.length]'hq=⟨t,d,r,p.nx,W.heap.size,-1,none⟩:=by simp
   rw [e9]
   exact⟨by rw [ht];simp only [hnl],rfl,rfl,rfl,he.symm,hdt⟩
 ·rw [List.map_append,List.map_singleton]
  refine ownsRow_setCell_other hrow4 (a:=⟨w.heap.size+1,0,none⟩) (fun e=>?_) _
  have e':g'=w.heap.size+1:=Option.some.inj e
  rcases hp4 with h1|h1
  ·exact(hf2 _ h1.symm).1 e'
  ·simp at h1;omega
 ·have e':g'=g:=Option.some.inj hg
  subst e'
  rw [←List.append_assoc]
  rcases hp4 with h1|h1
  ·exact⟨(hf2 _ h1.symm).1,F2 _ h1.symm⟩
  ·simp at h1
   exact⟨by omega,hR2.free_new (by omega)⟩
 ·refine(((hB.trans (hW.mono hBw)).trans (hB2.mono (by omega))).trans ?_)
  have h0:w.heap.size≤w2.heap.size:=by omega
  have hA:Below w.heap.size w2 (w2.alloc o):=(Below.refl _ _).alloc h0 o
  have hG:Below w.heap.size w2 w4:=hA.grown hg4 (Nat.le_trans h0 hA.size) (fun g hg=>(hrl g hg).1)
  exact hG.setCell (p:=⟨w.heap.size+1,0,none⟩) (Nat.le_succ _) _
theorem tryEach_any (h:Rep X K vr vw cs w S){p:Pl}{kv:Value}{l:List Pat}(hrd:RdL patK p.e X.w0 kv l)(hf:TxFit p.e l)(hnx:p.nx≤S.pl.length)(hll:l.length≤2147483647):
  Calls Tryz.prog 159 #[ptr X.m,kv,refV X S.pl p.nx] w (EachP X K vr vw cs S p l w):=by
 obtain⟨i0,hi,hz0,hz1,hz2⟩:=info_parts infoF
 obtain⟨k1,caps1,e1⟩:=ref_fn X S.pl p.nx
 obtain⟨A,cap,hkv⟩:=hrd.form
 subst hkv
 have hdl:=rd_deep hrd
 obtain⟨n,hnn⟩:∃n,n=l.length:=⟨_,rfl⟩
 have HN:=hid hnn
 have hw0:X.w0.heap.size≤w.heap.size:=h.bel.size
 have HC:Hid (∀k,k<n→∀vway wr,EachI X K vr vw cs S p l w k vway wr→∃(a:Addr) (r:PatR) (ways:List Value),A=some a∧(a.add (k*3)).block<X.w0.heap.size∧Pk X.w0 (a.add (k*3)) r∧(∃Ak nk ck,r.kv=.slice Ak nk ck)∧ways.length=k∧∀W b2,W.heap.size=b2→Below wr.heap.size wr W→Calls Tryz.prog 116 #[ptr X.m,.agg #[.int .i64 r.op,.string r.text,r.kv],.func (.func k1) #[] caps1] W fun e w2=>e=.returned (placeV b2)∧Below W.heap.size W w2∧Hid (RowV tF w.heap.size w2 vway ways)∧
   Hid (∀g' c4 w4 o,RowV tF w.heap.size w4 (.slice (some ⟨g',0,none⟩) (k+1) c4) (ways++ [placeV b2])→(w2.alloc o).grownBy w4 vway.ownBlock→(some g'=vway.ownBlock∨g'=(w2.alloc o).heap.size)→EachI X K vr vw cs S p l w (k+1) (.slice (some ⟨g',0,none⟩) (k+1) c4) (w4.setCell ⟨w.heap.size+1,0,none⟩ (.slice (some ⟨g',0,none⟩) (k+1) c4)))):=hid fun k hk vway wr hE=>by
  have hkl:k<l.length:=by omega
  cases hpe:p.e with
  | zero=>rw [hpe]at hdl;rw [show l=[]from hdl]at hkl;simp at hkl
  | succ d =>
   rw [hpe]at hrd hf hdl
   obtain⟨a,cap',r,hv,hab,hpk,hrn,ht1,ht2⟩:=kid_at hrd hf hkl
   cases hv
   obtain⟨Ak,ck,hkv⟩:=hrn.2.form
   obtain⟨ways,hwl,hcall⟩:=eachI_step hE hkl rfl hpe ⟨hrn,ht1,ht2⟩ (hdl _ (List.getElem_mem hkl)) hnx hw0
   rw [e1]at hcall
   exact⟨a,r,ways,rfl,hab,hpk,⟨Ak,_,ck,hkv⟩,hwl,fun W b2 hW2 hW=>by subst hW2;exact hcall W hW⟩
 have HEND:Hid (∀g m c wr,EachI X K vr vw cs S p l w n (.slice (some ⟨g,0,none⟩) m c) wr→EachP X K vr vw cs S p l w (.returned (eachV (w.heap.size+1))) wr):=hid fun g m c wr hE=>by
  rw [hnn]at hE
  exact eachI_end hE (by omega) (by simp)
 have H0:Hid (EachI X K vr vw cs S p l w 0 (.slice (some ⟨w.heap.size,0,none⟩) 0 0) ((w.alloc (.cells #[] tF)).alloc (bx (.slice (some ⟨w.heap.size,0,none⟩) 0 0) 152))):=hid (by
  have hB:Below w.heap.size w ((w.alloc (.cells #[] tF)).alloc (bx (.slice (some ⟨w.heap.size,0,none⟩) 0 0) 152)):=below_al (below_al (Below.refl _ _) _) _
  refine⟨K,[],K.le_refl,by rw [List.append_nil];exact h.below hB,rfl,⟨by simp,fun q hq=>absurd hq (by simp)⟩,?_,alloc_new_at _ _ (by simp),by rw [List.append_nil];exact h.free_new (by omega),fun g hg=>?_,hB⟩
  ·exact rowR_empty ((Below.heap_alloc _ _ _ (by simp)).trans (heap_alloc_new w _)) (Nat.le_refl _)
  ·have e':w.heap.size=g:=Option.some.inj hg
   subst e'
   exact⟨by omega,by rw [List.append_nil];exact h.free_new (Nat.le_refl _)⟩)
 have HBEL:Hid (∀k vway wr,EachI X K vr vw cs S p l w k vway wr→Below X.w0.heap.size X.w0 wr∧wr.heap[w.heap.size+1]? =some (bx vway 152)∧(∀g,vway.ownBlock=some g→g≠w.heap.size+1)∧w.heap.size≤wr.heap.size):=hid fun k vway wr hE=>by
  obtain⟨K1,nn,hle,hR,hnl,hk,hrow,hX,hf1,hf2,hB⟩:=hE
  exact⟨hR.bel,hX,fun g hg=>(hf2 g hg).1,hB.size⟩
 rw [e1,←hnn]
 rw [←hnn]at hll
 clear h hrd hf hnx e1 hdl hnn hw0
 go_enter Tryz.func159,Tryz.ntmps159
 go_wp2
 go_loopw [13] (fun i wr=>∃(k g c:Nat),k≤n∧i=.int .i64 k∧Hid (EachI X K vr vw cs S p l w k (.slice (some ⟨g,0,none⟩) k c) wr)) (fun i _=>n-(intOf i).toNat)
 case atStart=>exact⟨0,w.heap.size,0,Nat.zero_le _,rfl,H0⟩
 case round=>
  clear H0
  obtain⟨k,g,c,hk,rfl,HE⟩:=hrel
  obtain⟨hbel,hX,hgv,hws⟩:=HBEL.out _ _ _ HE.out
  have hXlt:=blk_lt hX
  have hX1:=cell_of_one hX
  have hXf:=free_of_one hX
  by_cases hlt:k<n
  ·obtain⟨a,r,ways,rfl,hab,hpk,⟨Ak,nk,ck,hkv⟩,hwl,hcall⟩:=HC.out k hlt _ wr HE.out
   obtain⟨op,text,kv⟩:=r
   obtain rfl:kv=.slice Ak nk ck:=hkv
   obtain⟨c0,c1,c2⟩:=Pk.below hpk hbel hab
   have HCALL:=hid hcall
   have HWL:=hid hwl
   have HX:=hid hX
   have HGV:=hid hgv
   clear hpk hcall hwl hX hgv HE HC HBEL
   go_wp2
   go_region_law (first
    |(refine step_fn_append rfl _ _ 152 tF i0 (by rfl) Tryz.underlying152 hi hz0 hz1 hz2 w.heap.size k _ ways (by rfl) (RowR.alloc HROW.out _) HWL.out (placeV (wr.heap.size+1)) ⟨w2.heap.size,0,none⟩ 1 (by rfl) (cell_of_one (heap_alloc_new _ _)) (by rfl) (by omega) (by simp;omega) (k+1) rfl ?_
      intro g' c4 w4 hrow4 hg4 hp4
      have HNEW:=hid (HS.out g' c4 w4 _ hrow4 hg4 hp4)
      have hX4:w4.heap[w.heap.size+1]? =some (bx (.slice (some ⟨g,0,none⟩) k c) 152):=(hg4.block _ (by simp;omega) (fun e=>HGV.out _ e.symm rfl)).trans ((Below.heap_alloc _ _ _ hz5).trans hX2)
      have f4:=free_of_one hX4
      have e4:=cell_of_one hX4)
    |(go_simp;go_at_call 116;refine(HCALL.out _ (wr.heap.size+1) (by simp) (by first | exact(below_al (Below.refl _ _) _).drew | exact below_al (Below.refl _ _) _)).mono ?_
      rintro e w2 ⟨rfl,hb2,HROW,HS⟩
      have hsz2:=hb2.size
      have hX2:w2.heap[w.heap.size+1]? =some (bx (.slice (some ⟨g,0,none⟩) k c) 152):=(hb2.block _ (by simp;omega)).trans ((Below.heap_alloc _ _ _ hXlt).trans HX.out)
      have e5:=cell_of_one hX2
      have hz5:=blk_lt hX2))
   all_goals
    clear hrow4 hg4 hp4 hX4 f4 e4
    go_wp2
    go_roundw
    case rel=>exact⟨k+1,g',c4,by omega,by go_num,HNEW⟩
    case measure=>simp [intOf];omega
  ·have hkn:k=n:=by omega
   subst hkn
   have HF:=hid (HEND.out g k c wr HE.out)
   clear HE HC HBEL HEND
   go_wp2
   go_ret
   exact HF.out
end
end
end Go.Proofs.YtecladbckadijaaGreatDoor
