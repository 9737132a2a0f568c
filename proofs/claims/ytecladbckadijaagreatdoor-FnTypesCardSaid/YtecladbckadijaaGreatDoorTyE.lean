/- MERGED for a claim. -/
import Derived.Test.YtecladbckadijaaGreatDoorPatG
set_option linter.unusedVariables false
set_option linter.unusedSimpArgs false
set_option maxRecDepth 100000
set_option maxHeartbeats 16000000
namespace Go.Proofs.YtecladbckadijaaGreatDoor
open Go.Lib (hid)
section
open Go.RowKit

theorem held_box {B q:Nat}{w2 wx w3:World}{v0 v1 v2:Value}(hbm:Below wx.heap.size wx w3)(h:((wx.cell? ⟨q,0,none⟩=some v0∧wx.cell? ⟨q,1,none⟩=some v1∧wx.cell? ⟨q,2,none⟩=some v2)∧wx.frozen? ⟨q,0,none⟩=false∧wx.frozen? ⟨q,1,none⟩=false∧wx.frozen? ⟨q,2,none⟩=false)∧Below B w2 wx)(hq:q<w2.heap.size)(hB:B=w2.heap.size:=by rfl):((w3.cell? ⟨q,0,none⟩=some v0∧w3.cell? ⟨q,1,none⟩=some v1∧w3.cell? ⟨q,2,none⟩=some v2)∧w3.frozen? ⟨q,0,none⟩=false∧w3.frozen? ⟨q,1,none⟩=false∧w3.frozen? ⟨q,2,none⟩=false)∧Below B w2 w3:=by
 subst hB
 have hl:=Nat.lt_of_lt_of_le hq h.2.size
 obtain⟨⟨⟨h0,h1,h2⟩,h3,h4,h5⟩,hb⟩:=h
 have hbl:=hbm.block q hl
 refine⟨⟨⟨?_,?_,?_⟩,?_,?_,?_⟩,below_step hb hbm⟩
 ·rw [hbm.cell (p:=⟨q,0,none⟩) hl];exact h0
 ·rw [hbm.cell (p:=⟨q,1,none⟩) hl];exact h1
 ·rw [hbm.cell (p:=⟨q,2,none⟩) hl];exact h2
 ·unfold World.frozen? at h3 ⊢;rw [hbl];exact h3
 ·unfold World.frozen? at h4 ⊢;rw [hbl];exact h4
 ·unfold World.frozen? at h5 ⊢;rw [hbl];exact h5
theorem sign2_own {d B b k:Nat}{s:ByteArray}{wr w1 w2 w3:World}{p:Pat}{A A3:Option Addr}{cc c3:Nat}{S S3:Nat→Prop}{o1:Obj}(ho:OwN patK d B w1 ⟨p.x.op,p.x.text,.slice A p.kids.length cc⟩ p S)(hB:B≤w1.heap.size)(hb:b<B)(hrB:wr.heap.size≤w1.heap.size)(hT1:RT b wr w1)(hT2:RT b (w1.alloc o1) w2)(hP:PS w2 b s k false)(h3:Below w2.heap.size w2 w3)(ho3:OwN patK d w2.heap.size w3 ⟨p.x.op,p.x.text,.slice A3 p.kids.length c3⟩ p S3)(x0 x1 x2:Value):
  ∃S',OwN patK (d+2) B (((((w3.setCell ⟨w1.heap.size,0,none⟩ x0).setCell ⟨w1.heap.size,1,none⟩ x1).setCell ⟨w1.heap.size,2,none⟩ x2).alloc (.cells #[.int .i64 p.x.op,.string p.x.text,.slice A3 p.kids.length c3] 92)).alloc (.cells #[.int .i64 p.x.op,.string p.x.text,.slice A p.kids.length cc,.int .i64 4,.string ⟨#[]⟩,.slice (some ⟨w3.heap.size,0,none⟩) 1 1] 92)) ⟨2,⟨#[]⟩,.slice (some ⟨w3.heap.size+1,0,none⟩) 2 2⟩ (opP 2 [p,opP 4 [p]]) S'∧PS (((((w3.setCell ⟨w1.heap.size,0,none⟩ x0).setCell ⟨w1.heap.size,1,none⟩ x1).setCell ⟨w1.heap.size,2,none⟩ x2).alloc (.cells #[.int .i64 p.x.op,.string p.x.text,.slice A3 p.kids.length c3] 92)).alloc (.cells #[.int .i64 p.x.op,.string p.x.text,.slice A p.kids.length cc,.int .i64 4,.string ⟨#[]⟩,.slice (some ⟨w3.heap.size,0,none⟩) 1 1] 92)) b s k false∧RT b wr (((((w3.setCell ⟨w1.heap.size,0,none⟩ x0).setCell ⟨w1.heap.size,1,none⟩ x1).setCell ⟨w1.heap.size,2,none⟩ x2).alloc (.cells #[.int .i64 p.x.op,.string p.x.text,.slice A3 p.kids.length c3] 92)).alloc (.cells #[.int .i64 p.x.op,.string p.x.text,.slice A p.kids.length cc,.int .i64 4,.string ⟨#[]⟩,.slice (some ⟨w3.heap.size,0,none⟩) 1 1] 92)):=by
 have hz2:w1.heap.size+1≤w2.heap.size:=by have:=hT2.size;simpa using this
 have hz3:=h3.size
 have hx2:OwN patK d B w2 ⟨p.x.op,p.x.text,.slice A p.kids.length cc⟩ p S:=(ho.al o1).apart hT2 (fun q hq e=>by have:=(ho.lt q hq).1;omega)
 have hn1:¬S w1.heap.size:=fun h=>absurd (ho.lt _ h).2 (by omega)
 have hn3:¬S3 w1.heap.size:=fun h=>by have:=(ho3.lt _ h).1;omega
 have hx3:=(((hx2.below h3).setOff (j:=0) (u:=x0) hn1).setOff (j:=1) (u:=x1) hn1).setOff (j:=2) (u:=x2) hn1
 have hy3:=((ho3.setOff (j:=0) (u:=x0) hn3).setOff (j:=1) (u:=x1) hn3).setOff (j:=2) (u:=x2) hn3
 have hP3:=(((hP.below h3).setNew (c:=w1.heap.size) (j:=0) (u:=x0) (by omega)).setNew (c:=w1.heap.size) (j:=1) (u:=x1) (by omega)).setNew (c:=w1.heap.size) (j:=2) (u:=x2) (by omega)
 have hT3:RT b wr (((w3.setCell ⟨w1.heap.size,0,none⟩ x0).setCell ⟨w1.heap.size,1,none⟩ x1).setCell ⟨w1.heap.size,2,none⟩ x2):=turns_new (turns_new (turns_new ((hT1.trans (turns_of_al hT2)).trans (below_turns h3)) hrB) hrB) hrB
 have hzw:(((w3.setCell ⟨w1.heap.size,0,none⟩ x0).setCell ⟨w1.heap.size,1,none⟩ x1).setCell ⟨w1.heap.size,2,none⟩ x2).heap.size=w3.heap.size:=by simp [World.setCell]
 generalize (((w3.setCell ⟨w1.heap.size,0,none⟩ x0).setCell ⟨w1.heap.size,1,none⟩ x1).setCell ⟨w1.heap.size,2,none⟩ x2)=V at hx3 hy3 hP3 hT3 hzw ⊢
 rw [←hzw]
 have hzw':V.heap.size=w3.heap.size:=hzw
 have s1:=owL_one (hy3.mono (show B≤w2.heap.size by omega)) (by omega) (by decide) (pat_cells _ _ _ _ _)
 have s2:OwL patK (d+1) B (V.alloc (.cells #[.int .i64 p.x.op,.string p.x.text,.slice A3 p.kids.length c3] 92)) (.slice (some ⟨V.heap.size,0,none⟩) 1 1) [p] (fun b=>b=V.heap.size∨S3 b):=by simpa [patK,PatR.enc]using s1
 have s3:=owN_of (op:=4) (text:=⟨#[]⟩) s2
 have t1:=owL_two ((hx3.al (.cells #[.int .i64 p.x.op,.string p.x.text,.slice A3 p.kids.length c3] 92)).to (Nat.le_succ d)) s3 (fun q h1 h2=>by
  have:=(ho.lt q h1).2
  rcases h2 with h2|h2
  ·omega
  ·have:=(ho3.lt q h2).1;omega) (by simp;omega)
 have t2:OwL patK (d+2) B ((V.alloc (.cells #[.int .i64 p.x.op,.string p.x.text,.slice A3 p.kids.length c3] 92)).alloc (.cells #[.int .i64 p.x.op,.string p.x.text,.slice A p.kids.length cc,.int .i64 4,.string ⟨#[]⟩,.slice (some ⟨V.heap.size,0,none⟩) 1 1] 92)) (.slice (some ⟨V.heap.size+1,0,none⟩) 2 2) [p,opP 4 [p]] (fun b=>b=V.heap.size+1∨S b∨(b=V.heap.size∨S3 b)):=by simpa [patK,PatR.enc,opP]using t1
 exact⟨_,owN_of (op:=2) (text:=⟨#[]⟩) t2,(hP3.al _).al _,turns_al (turns_al hT3 _) _⟩
theorem sseq_of {n:Nat}(hA:SAtomC n)(hTw:STwinC):SSeqC n:=by
 intro b s i w hP h30 hi hn
 have hbl:=hP.lt
 have hnb:¬w.heap.size=b:=by omega
 have hnb':¬b=w.heap.size:=by omega
 have hs:s.size≤maxLen:=by unfold maxLen;omega
 have hs9:s.size≤9223372036854775807:=by omega
 have hP0:=hP.al (.cells #[.int .i64 0,.string ⟨#[]⟩,.slice none 0 0] 92)
 have hlen:∀k,(s.data.toList.drop k).length=s.size-k:=fun k=>by simp
 obtain⟨l0,hl0⟩:∃l0,l0=s.data.toList.drop i:=⟨_,rfl⟩
 rw [←hl0]
 have hm:l0.length=s.size-i:=by rw [hl0];exact hlen i
 obtain⟨okS,hokS⟩:∃okS:Nat→List Pat→Prop,okS=fun k lk=>i≤k∧seqL (atomF n) l0.length l0=(lk++(seqL (atomF n) (s.size-k) (s.data.toList.drop k)).1,(seqL (atomF n) (s.size-k) (s.data.toList.drop k)).2):=⟨_,rfl⟩
 obtain⟨badS,hbadS⟩:∃badS:Prop,badS=(okR (seqP (atomF n) l0).2=false):=⟨_,rfl⟩
 obtain⟨O,hO⟩:∃O,O=(if okR (seqP (atomF n) l0).2=true then some (seqP (atomF n) l0)else none):=⟨_,rfl⟩
 rw [←hO]
 have HBAD:Hid (badS→O=none):=hid (by rw [hbadS,hO];intro h;rw [h];rfl)
 have hdone:∀k lk,okS k lk→atomF n (s.data.toList.drop k)=none→seqP (atomF n) l0=(joinP 2 lk,s.data.toList.drop k):=by
  intro k lk hok hnone
  rw [hokS]at hok
  obtain⟨_,h3⟩:=hok
  have hd:repL (atomF n) (s.data.toList.drop k)=none:=by unfold repL;rw [hnone];rfl
  rw [seq_done hd]at h3
  unfold seqP;rw [h3];simp
 have HSTOP:Hid (∀k lk,okS k lk→(∀h:k<s.size,s[k]=124∨s[k]=41)→O=some (joinP 2 lk,s.data.toList.drop k)):=hid (by
  intro k lk hok hk
  have h2:atomF n (s.data.toList.drop k)=none∧okR (s.data.toList.drop k)=true:=by
   by_cases hlt:k<s.size
   ·rw [data_drop s k hlt]
    refine⟨atomF_stop n _ _ (hk hlt),?_⟩
    rcases hk hlt with h|h<;>rw [h]<;>rfl
   ·rw [List.drop_eq_nil_of_le (by simp;omega)];exact⟨atomF_nil n,rfl⟩
  have h4:=hdone k lk hok h2.1
  rw [hO,h4]
  exact if_pos h2.2)
 have HNONE:Hid (∀k lk,okS k lk→∀h:k<s.size,s[k]≠124→s[k]≠41→atomF n (s.data.toList.drop k)=none→badS):=hid (by
  intro k lk hok hlt h1 h2 hnone
  have h4:=hdone k lk hok hnone
  rw [hbadS,h4]
  show okR (s.data.toList.drop k)=false
  rw [data_drop s k hlt]
  show(s[k]==124 || s[k]==41)=false
  simp [h1,h2])
 have HSOME:Hid (∀k lk,okS k lk→k≤s.size→∀p0 r0 p r,atomF n (s.data.toList.drop k)=some (p0,r0)→repT p0 r0=(p,r)→okS (s.size-r.length) (lk++ [p])∧k<s.size-r.length):=hid (by
  intro k lk hok hks p0 r0 p r h1 h2
  have hrep:repL (atomF n) (s.data.toList.drop k)=some (p,r):=by unfold repL;rw [h1];exact congrArg some h2
  have hsh:=repL_sh (atomF_sh n) _ p r hrep
  have hr:=hsh.1.drop
  have hrl:=hsh.2
  rw [hlen]at hr hrl
  rw [List.drop_drop,show k+(s.size-k-r.length)=s.size-r.length by omega]at hr
  rw [hokS]at hok ⊢
  obtain⟨h3,h4⟩:=hok
  rw [seq_step (atomF_sh n) (atomF_nil n) (Nat.le_of_eq (hlen k)) hrep (m':=s.size-(s.size-r.length)) (by omega)]at h4
  refine⟨⟨by omega,?_⟩,by omega⟩
  rw [←hr,h4];simp)
 have HA:=hid (fun(k:Nat) (w':World) (hP:PS w' b s k false) (hk:k≤s.size) (hik:i≤k)=>hA b s k w' hP h30 hk (by omega))
 have HI1:Hid (∀k lk,okS k lk→i≤k):=hid (fun k lk h=>by rw [hokS]at h;exact h.1)
 have HLEN:=hid hlen
 have H30:=hid h30
 have HTW:=hid hTw
 have HC0:Hid (Col (4*n+2) b s w okS badS (w.heap.size+1) 0 0 (s.size-i+1) ((w.alloc (.cells #[.int .i64 0,.string ⟨#[]⟩,.slice none 0 0] 92)).alloc (.cells #[] 92))):=hid (by
  have h0:=owL_new patK (4*n+3) (w.heap.size+1) (w.alloc (.cells #[.int .i64 0,.string ⟨#[]⟩,.slice none 0 0] 92)) (by simp)
  have h1:OwL patK (4*n+3) (w.heap.size+1) ((w.alloc (.cells #[.int .i64 0,.string ⟨#[]⟩,.slice none 0 0] 92)).alloc (.cells #[] 92)) (.slice (some ⟨w.heap.size+1,0,none⟩) 0 0) [] (fun b=>b=w.heap.size+1):=by simpa [patK]using h0
  exact .inl ⟨i,[],_,hi,rfl,by omega,rfl,hP0.al _,h1,by rw [hokS];exact⟨Nat.le_refl _,by rw [←hl0,←hm];simp⟩⟩)
 have hTa:=turns_al (TurnsAt.refl (fun q=>q=b) (w.alloc (.cells #[.int .i64 0,.string ⟨#[]⟩,.slice none 0 0] 92))) (.cells #[] 92)
 clear hA hTw hokS hbadS hlen hm hn h30 hi hP hO hdone hP0
 go_enter Tryz.func119,Tryz.ntmps119
 go_wp2
 go_loopg [3] (s.size-i+1) (fun G u wr=>∃(g m c:Nat),u=.slice (some ⟨g,0,none⟩) m c∧Hid (Col (4*n+2) b s w okS badS g m c G wr)∧RT b (w.alloc (.cells #[.int .i64 0,.string ⟨#[]⟩,.slice none 0 0] 92)) wr)
 case atStart=>exact⟨w.heap.size+1,0,0,rfl,HC0,hTa⟩
 case round=>
  clear HC0 hTa
  obtain⟨g,m,c,rfl,HC,hT⟩:=hrel
  have hwr:w.heap.size+1≤wr.heap.size:=by have:=hT.size;simp at this;omega
  have key:(∃k lk,PS wr b s k false∧(∃h:k<s.size,s[k]≠124∧s[k]≠41)∧Hid (okS k lk)∧m+1≤1048576∧
    Hid (∀op text A m2 c2 w4 j,RT b wr w4→PS w4 b s j true→badS→More (4*n+2) b s w okS badS g m c w4 op text A m2 c2 0)∧
    Hid (∀(p:Pat) A c2 S w4 k',RT b wr w4→OwN patK (4*n+2) wr.heap.size w4 ⟨p.x.op,p.x.text,.slice A p.kids.length c2⟩ p S→PS w4 b s k' false→k'≤s.size→k<k'→okS k' (lk++ [p])→More (4*n+2) b s w okS badS g m c w4 p.x.op p.x.text A p.kids.length c2 (s.size-k'+1))∧gk=s.size-k+1)∨
   (∃k bad,PS wr b s k bad∧(bad=true∨(bad=false∧∀h:k<s.size,s[k]=124∨s[k]=41))∧
    Hid (m=1→∀w3,PS w3 b s k bad→RT b wr w3→∃(op:Int) (text:ByteArray) (A:Option Addr) (m2 c2:Nat),w3.cell? ⟨g,0,none⟩=some (.int .i64 op)∧w3.cell? ⟨g,1,none⟩=some (.string text)∧w3.cell? ⟨g,2,none⟩=some (.slice A m2 c2)∧
     ∀x0 x1 x2,SOut (4*n+3) O b s w (.returned (.agg #[.int .i64 op,.string text,.slice A m2 c2])) (((w3.setCell ⟨w.heap.size,0,none⟩ x0).setCell ⟨w.heap.size,1,none⟩ x1).setCell ⟨w.heap.size,2,none⟩ x2))∧
    Hid (m≠1→∀w3,PS w3 b s k bad→RT b wr w3→∀x0 x1 x2,SOut (4*n+3) O b s w (.returned (.agg #[.int .i64 2,.string ⟨#[]⟩,.slice (some ⟨g,0,none⟩) m c])) (((w3.setCell ⟨w.heap.size,0,none⟩ x0).setCell ⟨w.heap.size,1,none⟩ x1).setCell ⟨w.heap.size,2,none⟩ x2))):=by
   rcases HC.out with ⟨k,lk,S,hk,hn,hnk,hG,hP,hO,hok⟩|⟨j,R,hG,hP,hrow,hRl,hslc,hbad⟩
   ·by_cases hgo:∃h:k<s.size,s[k]≠124∧s[k]≠41
    ·refine .inl ⟨k,lk,hP,hgo,hid hok,by have:=H30.out;omega,hid ?_,hid ?_,hG⟩
     ·intro op text A m2 c2 w4 j hT4 hP4 hbad
      obtain⟨R,h1,h2,h3⟩:=col_bad (op:=op) (text:=text) (A:=A) (m:=m2) (cc:=c2) hO hn hbl hT4 hP4 hbad
      exact⟨R,h1,h2,fun g' c' w5 o a1 a2 _=>h3 g' c' w5 o a1 a2⟩
     ·intro p A c2 S2 w4 k' hT4 ho hP4 hk' hkk hok'
      exact col_good (w1:=wr) hO hn hbl hwr (Nat.le_refl _) hT4 ho hP4 hk' (by omega) hok'
    ·have hno:∀h:k<s.size,s[k]=124∨s[k]=41:=fun h=>Classical.byContradiction fun e=>hgo ⟨h,fun e1=>e (.inl e1),fun e1=>e (.inr e1)⟩
     have hOe:=HSTOP.out k lk hok hno
     have hkl:s.size-(s.data.toList.drop k).length=k:=by rw [HLEN.out];omega
     refine .inr ⟨k,false,hP,.inr ⟨rfl,hno⟩,hid ?_,hid ?_⟩
     ·intro hm1 w3 hP3 hT3
      have hO3:=hO.apart hT3 (fun q hq e=>by have:=(hO.lt q hq).1;omega)
      obtain⟨R,K,hrow,hRl,hK,_⟩:=OwP.parts hO3
      obtain⟨x,rfl⟩:∃x,lk=[x]:=List.length_eq_one_iff.1 (by omega)
      obtain⟨r,rfl⟩:∃r,R=[r]:=List.length_eq_one_iff.1 hRl
      have hx:OwN patK (4*n+2) (w.heap.size+1) w3 r x (K 0):=hK 0 (by simp) (by simp)
      obtain⟨A,c2,rfl⟩:=OwN.slice hx
      obtain⟨f0,f1,f2⟩:=RowP.first hrow (by simp)
      refine⟨_,_,A,_,c2,f0,f1,f2,fun x0 x1 x2=>?_⟩
      rw [hOe]
      exact s_some (o:=(.cells #[.int .i64 0,.string ⟨#[]⟩,.slice none 0 0] 92)) (hx.mono (by simp)) hP3 hkl (hT.trans hT3) hbl (by omega)
     ·intro hm1 w3 hP3 hT3 x0 x1 x2
      have hO3:=hO.apart hT3 (fun q hq e=>by have:=(hO.lt q hq).1;omega)
      rw [hOe,join_op 2 (by omega)]
      rw [hn]at hO3 ⊢
      exact s_some (p:=opP 2 lk) (o:=(.cells #[.int .i64 0,.string ⟨#[]⟩,.slice none 0 0] 92)) ((owN_of hO3).mono (by simp)) hP3 hkl (hT.trans hT3) hbl (Nat.le_refl _)
   ·refine .inr ⟨j,true,hP,.inl rfl,hid ?_,hid ?_⟩
    ·intro hm1 w3 hP3 hT3
     have hrow3:=rowR_apart hrow hT3 (fun q hq e=>by have:=(hrow.lt hq).1;omega)
     obtain⟨r,rfl⟩:∃r,R=[r]:=List.length_eq_one_iff.1 (by omega)
     obtain⟨f0,f1,f2⟩:=RowP.first hrow3 (by simp)
     obtain⟨A,m2,c2,hkv⟩:=hslc r (by simp)
     refine⟨_,_,A,m2,c2,f0,f1,by rw [f2];exact congrArg some hkv,fun x0 x1 x2=>?_⟩
     rw [HBAD.out hbad]
     exact s_none (o:=(.cells #[.int .i64 0,.string ⟨#[]⟩,.slice none 0 0] 92)) hP3 (hT.trans hT3) hbl
    ·intro hm1 w3 hP3 hT3 x0 x1 x2
     rw [HBAD.out hbad]
     exact s_none (o:=(.cells #[.int .i64 0,.string ⟨#[]⟩,.slice none 0 0] 92)) hP3 (hT.trans hT3) hbl
  clear HC
  rcases key with ⟨k,lk,hP,⟨hlt,h124,h41⟩,HOK,hm1,HB,HG,hgk⟩|⟨k,bad,hP,hstop,H1,H2⟩
  ·obtain⟨⟨c0,c1,c2⟩,z1,z2⟩:=hP.cells
   have HP:=hid hP
   have hq1:decide ((k:Int)<(s.size:Int))=true:=by simp;omega
   have hq2:(k:Int)<(s.size:Int):=by omega
   have hq3:((s[k].toNat:Int) != 124)=true:=neq_byte (d:=124) h124
   have hq4:((s[k].toNat:Int) != 41)=true:=neq_byte (d:=41) h41
   have hB:=hP.lt
   have hki:=HI1.out k lk HOK.out
   have hCs:=fun w' hP=>HA.out k w' hP (by omega) hki
   have hbad:=HNONE.out k lk HOK.out hlt h124 h41
   have hgood:=HSOME.out k lk HOK.out (by omega)
   have hsh:=atomF_sh n (s.data.toList.drop k)
   have HGK:=hid hgk
   clear HA HI1 HNONE HSOME HSTOP h124 h41 hP hki HOK hgk
   cases hat:atomF n (s.data.toList.drop k)with
   | none =>
    rw [hat]at hCs
    have HBD:=hid (hbad hat)
    have HA:=hid hCs
    clear hCs hgood hbad hat hsh
    go_wp2
    go_quiet (fail)
    have hPq:=HP.out.drewN nq
    have hTq:RT b wr (wr.drewN nq):=turns_drewN wr nq
    clear c0 c1 c2 z1 z2
    go_wp2_with (first
     |(go_at_call 137;((refine(HA.out _ hPq).mono ?_);rintro e w1 ⟨op,text,A,m2,c2,j,rfl,hP1,hT1⟩;have hb1:b<w1.heap.size:=hP1.lt;have hPx:=hP1.al (.cells #[.int .i64 op,.string text,.slice A m2 c2] 92);clear hP1 hPq))
     |(go_at_call 120;((with_reducible refine(next_no b s hs j true 42 42 ch42 _ hPx (no_bad s j 42)).mono ?_);rintro e w2 ⟨rfl,hP2,hT2⟩;clear hPx))
     |(go_at_call 120;((with_reducible refine(next_no b s hs j true 43 43 ch43 _ hP2 (no_bad s j 43)).mono ?_);rintro e w3 ⟨rfl,hP3,hT3⟩;clear hP2))
     |(go_at_call 120;((with_reducible refine(next_no b s hs j true 63 63 ch63 _ hP3 (no_bad s j 63)).mono ?_);rintro e w4 ⟨rfl,hP4,hT4⟩;have hTx:=(hT2.trans hT3).trans hT4;obtain⟨⟨b0,b1,b2⟩,⟨f0,f1,f2⟩,hz⟩:=box3t hTx hb1;have hT04:RT b wr w4:=hTq.trans (hT1.trans (turns_of_al hTx));obtain⟨R,hrow,hgB,hF⟩:=HB.out op text A m2 c2 w4 j hT04 hP4 HBD.out;have HF:=hid hF;have HT04:=hid hT04;have hw4:w.heap.size+1≤w4.heap.size:=Nat.le_trans hwr hT04.size;clear hF hT2 hT3 hT4 hT1 hTq hTx hT04 hP4 hP3))
     |(at_builtin;refine wpList_pat_append rfl _ _ rfl (w.heap.size+1) g m c R rfl hrow op text A m2 c2 w4.heap.size rfl rfl hm1 hw4 (m+1) rfl ?_;intro g' c' w5 hrow5 hg5 hg5'))
    go_roundg 0
    case rel=>exact⟨g',m+1,c',by go_num,hid (HF.out g' c' w5 _ hrow5 hg5 hg5'),turns_grown (turns_al (hT.trans HT04.out) _) hg5 (by simpa using hgB)⟩
    case measure=>have:=HGK.out;omega
   | some x =>
    obtain⟨p0,r0⟩:=x
    rw [hat]at hCs
    have hs0:=(hsh p0 r0 hat).1.drop
    have hl0':=(hsh p0 r0 hat).2
    rw [HLEN.out]at hs0 hl0'
    rw [List.drop_drop,show k+(s.size-k-r0.length)=s.size-r0.length by omega]at hs0
    obtain⟨k0,hk0⟩:∃k0,s.size-r0.length=k0:=⟨_,rfl⟩
    rw [hk0]at hs0
    have HA:Hid (∀w',PS w' b s k false→Calls Tryz.prog 137 #[.pointer (some ⟨b,0,none⟩)] w' fun e w''=>∃(A:Option Addr) (c:Nat) (S:Nat→Prop),e=.returned (.agg #[.int .i64 p0.x.op,.string p0.x.text,.slice A p0.kids.length c])∧OwN patK (4*n) w'.heap.size w'' ⟨p0.x.op,p0.x.text,.slice A p0.kids.length c⟩ p0 S∧PS w'' b s k0 false∧RT b w' w''):=hid (by rw [←hk0];exact hCs)
    have hk00:k0≤s.size:=by omega
    have HFEW:Hid (Few (4*n) p0.kids):=hid (few_atomF n _ p0 r0 hat (by rw [HLEN.out];have:=H30.out;omega))
    have HOKG:Hid (∀p j,k0≤j→j≤s.size→repT p0 (s.data.toList.drop k0)=(p,s.data.toList.drop j)→okS j (lk++ [p])∧k<j):=hid (by
     intro p j h1 h2 h3
     have h4:=hgood p0 r0 p (s.data.toList.drop j) hat (by rw [←h3,←hs0])
     rw [HLEN.out,show s.size-(s.size-j)=j by omega]at h4
     exact h4)
    clear hCs hgood hbad hat hsh hs0 hl0' hk0
    by_cases h42:∃h:k0<s.size,s[k0]=42
    ·obtain⟨hlt0,e42⟩:=h42
     have hrt:repT p0 (s.data.toList.drop k0)=(opP 4 [p0],s.data.toList.drop (k0+1)):=by rw [data_drop s k0 hlt0,e42];rfl
     have HOK2:=hid (HOKG.out _ (k0+1) (by omega) (by omega) hrt)
     have HE:=hid e42
     have hk01:k0+1≤s.size:=hlt0
     clear HOKG hrt e42
     go_wp2
     go_quiet (fail)
     have hPq:=HP.out.drewN nq
     have hTq:RT b wr (wr.drewN nq):=turns_drewN wr nq
     clear c0 c1 c2 z1 z2
     go_wp2_with (first
      |(go_at_call 137;((refine(HA.out _ hPq).mono ?_);rintro e w1 ⟨A,c2,S,rfl,ho,hP1,hT1⟩;have hb1:b<w1.heap.size:=hP1.lt;have hPx:=hP1.al (.cells #[.int .i64 p0.x.op,.string p0.x.text,.slice A p0.kids.length c2] 92);clear hP1 hPq))
      |(go_at_call 120;((with_reducible refine(next_yes b s hs k0 42 42 ch42 _ hPx hlt0 HE.out).mono ?_);rintro e w2 ⟨rfl,hP2,hT2⟩;obtain⟨⟨b0,b1,b2⟩,⟨f0,f1,f2⟩,hz⟩:=box3t hT2 hb1;have HS:=hid (fun x0 x1 x2=>sign_own (wr:=wr) (k:=k0+1) (k':=0) (g:=0) (m:=0) (c:=0) 4 (ho.mono (show wr.heap.size≤(wr.drewN nq).heap.size from Nat.le_refl _)) hT1.size hB hT1.size (hTq.trans hT1) hT2 hP2 x0 x1 x2);clear hPx hP2))
      |(at_builtin;obtain⟨S',h1,h2,h3⟩:=HS.out (.int .i64 4) (.string ⟨#[]⟩) (.slice (some ⟨w2.heap.size,0,none⟩) 1 1);obtain⟨R,hrow,hgB,hF⟩:=HG.out (opP 4 [p0]) _ _ _ _ (k0+1) h3 (h1.to (by omega)) h2 hk01 HOK2.out.2 HOK2.out.1;refine wpList_pat_append rfl _ _ rfl (w.heap.size+1) g m c R rfl hrow 4 ⟨#[]⟩ (some ⟨w2.heap.size,0,none⟩) 1 1 _ rfl (by first | rfl | simp) hm1 (Nat.le_trans hwr h3.size) (m+1) rfl ?_;intro g' c' w5 hrow5 hg5 hg5'))
     go_roundg (s.size-(k0+1)+1)
     case rel=>exact⟨g',m+1,c',by go_num,hid (hF g' c' w5 _ hrow5 hg5 hg5'),turns_grown (turns_al (hT.trans h3) _) hg5 (by simpa using hgB)⟩
     case measure=>have:=HGK.out;have:=HOK2.out.2;omega
    ·have n42:NoNext s k0 false 42:=.inr fun h e=>h42 ⟨h,e⟩
     by_cases h43:∃h:k0<s.size,s[k0]=43
     ·obtain⟨hlt0,e43⟩:=h43
      have hrt:repT p0 (s.data.toList.drop k0)=(opP 2 [p0,opP 4 [p0]],s.data.toList.drop (k0+1)):=by rw [data_drop s k0 hlt0,e43];rfl
      have HOK2:=hid (HOKG.out _ (k0+1) (by omega) (by omega) hrt)
      have HE:=hid e43
      have hk01:k0+1≤s.size:=hlt0
      clear HOKG hrt e43 h42
      go_wp2
      go_quiet (fail)
      have hPq:=HP.out.drewN nq
      have hTq:RT b wr (wr.drewN nq):=turns_drewN wr nq
      clear c0 c1 c2 z1 z2
      go_wp2_with (first
       |(go_at_call 137;((refine(HA.out _ hPq).mono ?_);rintro e w1 ⟨A,c2,S,rfl,ho,hP1,hT1⟩;have hb1:b<w1.heap.size:=hP1.lt;have hPx:=hP1.al (.cells #[.int .i64 p0.x.op,.string p0.x.text,.slice A p0.kids.length c2] 92);clear hP1 hPq))
       |(go_at_call 120;((with_reducible refine(next_no b s hs k0 false 42 42 ch42 _ hPx n42).mono ?_);rintro e wa ⟨rfl,hPa,hTa⟩;clear hPx))
       |(go_at_call 120;((with_reducible refine(next_yes b s hs k0 43 43 ch43 _ hPa hlt0 HE.out).mono ?_);rintro e w2 ⟨rfl,hP2,hT4⟩;have hT2:=hTa.trans hT4;obtain⟨⟨b0,b1,b2⟩,⟨f0,f1,f2⟩,hz⟩:=box3t hT2 hb1;have HTx:=hid (hTq.trans hT1);have HT2:=hid hT2;have HP2:=hid hP2;clear hPa hTa hT4)))
      have hoB:=ho.mono (show wr.heap.size≤(wr.drewN nq).heap.size from Nat.le_refl _)
      have ho2:OwN patK (4*n) wr.heap.size w2 ⟨p0.x.op,p0.x.text,.slice A p0.kids.length c2⟩ p0 S:=(hoB.al (.cells #[.int .i64 p0.x.op,.string p0.x.text,.slice A p0.kids.length c2] 92)).apart hT2 (fun q hq e=>by have:=(hoB.lt q hq).1;omega)
      have HTT:Hid (∀w',Below w2.heap.size w2 w'→Calls Tryz.prog 138 #[.agg #[.int .i64 p0.x.op,.string p0.x.text,.slice A p0.kids.length c2]] w' fun e w''=>∃(A':Option Addr) (c':Nat) (S':Nat→Prop),e=.returned (.agg #[.int .i64 p0.x.op,.string p0.x.text,.slice A' p0.kids.length c'])∧Hid (OwN patK (4*n) w'.heap.size w'' ⟨p0.x.op,p0.x.text,.slice A' p0.kids.length c'⟩ p0 S')∧Below w'.heap.size w' w''):=hid (fun w' hb=>(HTW.out (4*n) ⟨p0.x.op,p0.x.text,.slice A p0.kids.length c2⟩ p0 w' (ho2.below hb).rd HFEW.out).mono (by rintro e w'' ⟨A',c',S',h1,h2,h3⟩;exact⟨A',c',S',h1,hid h2,h3⟩))
      have HO2:=hid ho2
      have HBX:w1.heap.size<w2.heap.size:=hz
      have HOB:=hid hoB
      clear ho2 hoB
      go_region_with (first|(go_at_call 138;(refine(HTT.out _ (by first|exact(Below.refl _ _).drew|exact Below.refl _ _)).mono ?_;rintro e w3 ⟨A3,c3,S3,rfl,HO3,hbm⟩;obtain⟨⟨⟨d0,d1,d2⟩,e0,e1,e2⟩,hb3⟩:=held_box (q:=w1.heap.size) hbm ⟨⟨⟨b0,b1,b2⟩,f0,f1,f2⟩,(Below.refl _ _).drew⟩ HBX;have hz3:w1.heap.size<w3.heap.size:=Nat.lt_of_lt_of_le HBX hb3.size;have hz4:w1.heap.size<w3.heap.size+1:=Nat.lt_succ_of_lt hz3;have hz5:w1.heap.size≤w3.heap.size:=Nat.le_of_lt hz3;have hz6:w1.heap.size<w3.heap.size+1+1:=Nat.lt_succ_of_lt hz4;have hz7:w1.heap.size≤w3.heap.size+1:=Nat.le_of_lt hz4;have hz8:¬w1.heap.size=w3.heap.size:=Nat.ne_of_lt hz3;have hz9:¬w1.heap.size=w3.heap.size+1:=Nat.ne_of_lt hz4)))
      all_goals
       have HPL:=hid (fun x0 x1 x2=>sign2_own (wr:=wr) HOB.out hT1.size hB (show wr.heap.size≤w1.heap.size from hT1.size) HTx.out HT2.out HP2.out hb3 HO3.out x0 x1 x2)
       clear hT2 hP2 hT1 hTq hbm hb3
       go_wp2_with ((at_builtin;obtain⟨S',h1,h2,h3⟩:=HPL.out (.int .i64 2) (.string ⟨#[]⟩) (.slice (some ⟨w3.heap.size+1,0,none⟩) 2 2);obtain⟨R,hrow,hgB,hF⟩:=HG.out (opP 2 [p0,opP 4 [p0]]) _ _ _ _ (k0+1) h3 (h1.to (by omega)) h2 hk01 HOK2.out.2 HOK2.out.1;go_loud (refine wpList_pat_append rfl _ _ rfl (w.heap.size+1) g m c R rfl hrow 2 ⟨#[]⟩ (some ⟨w3.heap.size+1,0,none⟩) 2 2 _ rfl (by first|rfl|simp) hm1 (Nat.le_trans hwr h3.size) (m+1) rfl ?_);intro g' c' w5 hrow5 hg5 hg5'))
       go_roundg (s.size-(k0+1)+1)
       case rel=>exact⟨g',m+1,c',by go_num,hid (hF g' c' w5 _ hrow5 hg5 hg5'),turns_grown (turns_al (hT.trans h3) _) hg5 (by simpa using hgB)⟩
       case measure=>have:=HGK.out;have:=HOK2.out.2;omega
     ·have n43:NoNext s k0 false 43:=.inr fun h e=>h43 ⟨h,e⟩
      by_cases h63:∃h:k0<s.size,s[k0]=63
      ·obtain⟨hlt0,e63⟩:=h63
       have hrt:repT p0 (s.data.toList.drop k0)=(opP 5 [p0],s.data.toList.drop (k0+1)):=by rw [data_drop s k0 hlt0,e63];rfl
       have HOK2:=hid (HOKG.out _ (k0+1) (by omega) (by omega) hrt)
       have HE:=hid e63
       have hk01:k0+1≤s.size:=hlt0
       clear HOKG hrt e63 h42 h43
       go_wp2
       go_quiet (fail)
       have hPq:=HP.out.drewN nq
       have hTq:RT b wr (wr.drewN nq):=turns_drewN wr nq
       clear c0 c1 c2 z1 z2
       go_wp2_with (first
        |(go_at_call 137;((refine(HA.out _ hPq).mono ?_);rintro e w1 ⟨A,c2,S,rfl,ho,hP1,hT1⟩;have hb1:b<w1.heap.size:=hP1.lt;have hPx:=hP1.al (.cells #[.int .i64 p0.x.op,.string p0.x.text,.slice A p0.kids.length c2] 92);clear hP1 hPq))
        |(go_at_call 120;((with_reducible refine(next_no b s hs k0 false 42 42 ch42 _ hPx n42).mono ?_);rintro e wa ⟨rfl,hPa,hTa⟩;clear hPx))
        |(go_at_call 120;((with_reducible refine(next_no b s hs k0 false 43 43 ch43 _ hPa n43).mono ?_);rintro e wb ⟨rfl,hP3,hTb⟩;clear hPa))
        |(go_at_call 120;((with_reducible refine(next_yes b s hs k0 63 63 ch63 _ hP3 hlt0 HE.out).mono ?_);rintro e w2 ⟨rfl,hP2,hT4⟩;have hT2:=(hTa.trans hTb).trans hT4;obtain⟨⟨b0,b1,b2⟩,⟨f0,f1,f2⟩,hz⟩:=box3t hT2 hb1;have HS:=hid (fun x0 x1 x2=>sign_own (wr:=wr) (k:=k0+1) (k':=0) (g:=0) (m:=0) (c:=0) 5 (ho.mono (show wr.heap.size≤(wr.drewN nq).heap.size from Nat.le_refl _)) hT1.size hB hT1.size (hTq.trans hT1) hT2 hP2 x0 x1 x2);clear hP3 hP2))
        |(at_builtin;obtain⟨S',h1,h2,h3⟩:=HS.out (.int .i64 5) (.string ⟨#[]⟩) (.slice (some ⟨w2.heap.size,0,none⟩) 1 1);obtain⟨R,hrow,hgB,hF⟩:=HG.out (opP 5 [p0]) _ _ _ _ (k0+1) h3 (h1.to (by omega)) h2 hk01 HOK2.out.2 HOK2.out.1;refine wpList_pat_append rfl _ _ rfl (w.heap.size+1) g m c R rfl hrow 5 ⟨#[]⟩ (some ⟨w2.heap.size,0,none⟩) 1 1 _ rfl (by first | rfl | simp) hm1 (Nat.le_trans hwr h3.size) (m+1) rfl ?_;intro g' c' w5 hrow5 hg5 hg5'))
       go_roundg (s.size-(k0+1)+1)
       case rel=>exact⟨g',m+1,c',by go_num,hid (hF g' c' w5 _ hrow5 hg5 hg5'),turns_grown (turns_al (hT.trans h3) _) hg5 (by simpa using hgB)⟩
       case measure=>have:=HGK.out;have:=HOK2.out.2;omega
      ·have n63:NoNext s k0 false 63:=.inr fun h e=>h63 ⟨h,e⟩
       have hrt:repT p0 (s.data.toList.drop k0)=(p0,s.data.toList.drop k0):=by
        by_cases hlt0:k0<s.size
        ·rw [data_drop s k0 hlt0]
         have e1:s[k0]≠42:=fun e=>h42 ⟨hlt0,e⟩
         have e2:s[k0]≠43:=fun e=>h43 ⟨hlt0,e⟩
         have e3:s[k0]≠63:=fun e=>h63 ⟨hlt0,e⟩
         simp [repT,e1,e2,e3]
        ·rw [List.drop_eq_nil_of_le (by simp;omega)];rfl
       have HOK2:=hid (HOKG.out _ k0 (Nat.le_refl _) hk00 hrt)
       clear HOKG hrt h42 h43 h63
       go_wp2
       go_quiet (fail)
       have hPq:=HP.out.drewN nq
       have hTq:RT b wr (wr.drewN nq):=turns_drewN wr nq
       clear c0 c1 c2 z1 z2
       go_wp2_with (first
        |(go_at_call 137;((refine(HA.out _ hPq).mono ?_);rintro e w1 ⟨A,c2,S,rfl,ho,hP1,hT1⟩;have hb1:b<w1.heap.size:=hP1.lt;have hPx:=hP1.al (.cells #[.int .i64 p0.x.op,.string p0.x.text,.slice A p0.kids.length c2] 92);clear hP1 hPq))
        |(go_at_call 120;((with_reducible refine(next_no b s hs k0 false 42 42 ch42 _ hPx n42).mono ?_);rintro e wa ⟨rfl,hPa,hTa⟩;clear hPx))
        |(go_at_call 120;((with_reducible refine(next_no b s hs k0 false 43 43 ch43 _ hPa n43).mono ?_);rintro e wb ⟨rfl,hP3,hTb⟩;clear hPa))
        |(go_at_call 120;((with_reducible refine(next_no b s hs k0 false 63 63 ch63 _ hP3 n63).mono ?_);rintro e w2 ⟨rfl,hP2,hT4⟩;have hT2:=(hTa.trans hTb).trans hT4;obtain⟨⟨b0,b1,b2⟩,⟨f0,f1,f2⟩,hz⟩:=box3t hT2 hb1;have h3:RT b wr w2:=(hTq.trans hT1).trans (turns_of_al hT2);have hw2:w.heap.size+1≤w2.heap.size:=Nat.le_trans hwr h3.size;have ho2:=((ho.mono (show wr.heap.size≤(wr.drewN nq).heap.size from Nat.le_refl _)).al (.cells #[.int .i64 p0.x.op,.string p0.x.text,.slice A p0.kids.length c2] 92)).apart hT2 (fun q hq e=>by have:=(OwN.lt (ho.mono (show wr.heap.size≤(wr.drewN nq).heap.size from Nat.le_refl _)) q hq).1;omega);obtain⟨R,hrow,hgB,hF⟩:=HG.out p0 _ _ _ _ k0 h3 (ho2.to (by omega)) hP2 hk00 HOK2.out.2 HOK2.out.1;clear hP3 hP2 ho2))
        |(at_builtin;refine wpList_pat_append rfl _ _ rfl (w.heap.size+1) g m c R rfl hrow p0.x.op p0.x.text A p0.kids.length c2 w2.heap.size rfl rfl hm1 hw2 (m+1) rfl ?_;intro g' c' w5 hrow5 hg5 hg5'))
       go_roundg (s.size-k0+1)
       case rel=>exact⟨g',m+1,c',by go_num,hid (hF g' c' w5 _ hrow5 hg5 hg5'),turns_grown (turns_al (hT.trans h3) _) hg5 (by simpa using hgB)⟩
       case measure=>have:=HGK.out;have:=HOK2.out.2;omega
  ·obtain⟨⟨c0,c1,c2⟩,z1,z2⟩:=hP.cells
   have HP:=hid hP
   clear hP HSTOP HNONE HSOME HA HI1 HLEN HBAD HTW
   have hcase:(bad=true)∨(bad=false∧Hid (¬k<s.size))∨(∃h:k<s.size,bad=false∧Hid (s[k]=124))∨(∃h:k<s.size,bad=false∧Hid (s[k]=41)):=by
    rcases hstop with h|⟨h,hk⟩
    ·exact .inl h
    ·by_cases hlt:k<s.size
     ·rcases hk hlt with e|e
      ·exact .inr (.inr (.inl ⟨hlt,h,hid e⟩))
      ·exact .inr (.inr (.inr ⟨hlt,h,hid e⟩))
     ·exact .inr (.inl ⟨h,hid hlt⟩)
   clear hstop
   rcases hcase with rfl|⟨rfl,hge⟩|⟨hlt,rfl,he⟩|⟨hlt,rfl,he⟩
   ·
    by_cases hm1:m=1
    ·have hq:((m:Int)==1)=true:=by rw [hm1];rfl
     have HM:=hid hm1
     have hpos:(0:Int)<(m:Int):=by omega
     clear hm1
     go_wp2
     go_quiet (fail)
     obtain⟨op,text,A,m2,c2,f0,f1,f2,hF⟩:=H1.out HM.out (wr.drewN nq) (HP.out.drewN nq) (turns_drewN wr nq)
     have HF:=hid hF
     obtain⟨⟨b0,b1,b2⟩,⟨z0,z1,z2⟩,hz⟩:=box3t (hT.trans (turns_drewN wr nq)) hbl
     clear hF
     go_wp2
     refine bodyPost_ret (v:=.agg #[.int .i64 op,.string text,.slice A m2 c2]) (by simp [results,Tryz.results119,go_sem,b0,b1,b2,hz,hnb,hnb']) rfl ?_
     exact HF.out _ _ _
    ·have hq:((m:Int)==1)=false:=by simp;omega
     have HM:=hid hm1
     clear hm1
     go_wp2
     go_quiet (fail)
     have HF:=hid (H2.out HM.out (wr.drewN nq) (HP.out.drewN nq) (turns_drewN wr nq))
     obtain⟨⟨b0,b1,b2⟩,⟨z0,z1,z2⟩,hz⟩:=box3t (hT.trans (turns_drewN wr nq)) hbl
     go_wp2
     refine bodyPost_ret (v:=.agg #[.int .i64 2,.string ⟨#[]⟩,.slice (some ⟨g,0,none⟩) m c]) (by simp [results,Tryz.results119,go_sem,b0,b1,b2,hz,hnb,hnb']) rfl ?_
     exact HF.out _ _ _
   ·
    have hq1:decide ((k:Int)<(s.size:Int))=false:=by have:=hge.out;simp;omega
    have hq2:¬(k:Int)<(s.size:Int):=by have:=hge.out;omega
    have hq5:(s.size:Int)≤(k:Int):=by have:=hge.out;omega
    have hq6:¬k<s.size:=hge.out
    by_cases hm1:m=1
    ·have hq:((m:Int)==1)=true:=by rw [hm1];rfl
     have HM:=hid hm1
     have hpos:(0:Int)<(m:Int):=by omega
     clear hm1
     go_wp2
     go_quiet (fail)
     obtain⟨op,text,A,m2,c2,f0,f1,f2,hF⟩:=H1.out HM.out (wr.drewN nq) (HP.out.drewN nq) (turns_drewN wr nq)
     have HF:=hid hF
     obtain⟨⟨b0,b1,b2⟩,⟨z0,z1,z2⟩,hz⟩:=box3t (hT.trans (turns_drewN wr nq)) hbl
     clear hF
     go_wp2
     refine bodyPost_ret (v:=.agg #[.int .i64 op,.string text,.slice A m2 c2]) (by simp [results,Tryz.results119,go_sem,b0,b1,b2,hz,hnb,hnb']) rfl ?_
     exact HF.out _ _ _
    ·have hq:((m:Int)==1)=false:=by simp;omega
     have HM:=hid hm1
     clear hm1
     go_wp2
     go_quiet (fail)
     have HF:=hid (H2.out HM.out (wr.drewN nq) (HP.out.drewN nq) (turns_drewN wr nq))
     obtain⟨⟨b0,b1,b2⟩,⟨z0,z1,z2⟩,hz⟩:=box3t (hT.trans (turns_drewN wr nq)) hbl
     go_wp2
     refine bodyPost_ret (v:=.agg #[.int .i64 2,.string ⟨#[]⟩,.slice (some ⟨g,0,none⟩) m c]) (by simp [results,Tryz.results119,go_sem,b0,b1,b2,hz,hnb,hnb']) rfl ?_
     exact HF.out _ _ _
   ·
    have hq1:decide ((k:Int)<(s.size:Int))=true:=by simp;omega
    have hq2:(k:Int)<(s.size:Int):=by omega
    have hq3:((s[k].toNat:Int) != 124)=false:=by rw [he.out];rfl
    by_cases hm1:m=1
    ·have hq:((m:Int)==1)=true:=by rw [hm1];rfl
     have HM:=hid hm1
     have hpos:(0:Int)<(m:Int):=by omega
     clear hm1
     go_wp2
     go_quiet (fail)
     obtain⟨op,text,A,m2,c2,f0,f1,f2,hF⟩:=H1.out HM.out (wr.drewN nq) (HP.out.drewN nq) (turns_drewN wr nq)
     have HF:=hid hF
     obtain⟨⟨b0,b1,b2⟩,⟨z0,z1,z2⟩,hz⟩:=box3t (hT.trans (turns_drewN wr nq)) hbl
     clear hF
     go_wp2
     refine bodyPost_ret (v:=.agg #[.int .i64 op,.string text,.slice A m2 c2]) (by simp [results,Tryz.results119,go_sem,b0,b1,b2,hz,hnb,hnb']) rfl ?_
     exact HF.out _ _ _
    ·have hq:((m:Int)==1)=false:=by simp;omega
     have HM:=hid hm1
     clear hm1
     go_wp2
     go_quiet (fail)
     have HF:=hid (H2.out HM.out (wr.drewN nq) (HP.out.drewN nq) (turns_drewN wr nq))
     obtain⟨⟨b0,b1,b2⟩,⟨z0,z1,z2⟩,hz⟩:=box3t (hT.trans (turns_drewN wr nq)) hbl
     go_wp2
     refine bodyPost_ret (v:=.agg #[.int .i64 2,.string ⟨#[]⟩,.slice (some ⟨g,0,none⟩) m c]) (by simp [results,Tryz.results119,go_sem,b0,b1,b2,hz,hnb,hnb']) rfl ?_
     exact HF.out _ _ _
   ·
    have hq1:decide ((k:Int)<(s.size:Int))=true:=by simp;omega
    have hq2:(k:Int)<(s.size:Int):=by omega
    have hq3:((s[k].toNat:Int) != 124)=true:=by rw [he.out];rfl
    have hq4:((s[k].toNat:Int) != 41)=false:=by rw [he.out];rfl
    by_cases hm1:m=1
    ·have hq:((m:Int)==1)=true:=by rw [hm1];rfl
     have HM:=hid hm1
     have hpos:(0:Int)<(m:Int):=by omega
     clear hm1
     go_wp2
     go_quiet (fail)
     obtain⟨op,text,A,m2,c2,f0,f1,f2,hF⟩:=H1.out HM.out (wr.drewN nq) (HP.out.drewN nq) (turns_drewN wr nq)
     have HF:=hid hF
     obtain⟨⟨b0,b1,b2⟩,⟨z0,z1,z2⟩,hz⟩:=box3t (hT.trans (turns_drewN wr nq)) hbl
     clear hF
     go_wp2
     refine bodyPost_ret (v:=.agg #[.int .i64 op,.string text,.slice A m2 c2]) (by simp [results,Tryz.results119,go_sem,b0,b1,b2,hz,hnb,hnb']) rfl ?_
     exact HF.out _ _ _
    ·have hq:((m:Int)==1)=false:=by simp;omega
     have HM:=hid hm1
     clear hm1
     go_wp2
     go_quiet (fail)
     have HF:=hid (H2.out HM.out (wr.drewN nq) (HP.out.drewN nq) (turns_drewN wr nq))
     obtain⟨⟨b0,b1,b2⟩,⟨z0,z1,z2⟩,hz⟩:=box3t (hT.trans (turns_drewN wr nq)) hbl
     go_wp2
     refine bodyPost_ret (v:=.agg #[.int .i64 2,.string ⟨#[]⟩,.slice (some ⟨g,0,none⟩) m c]) (by simp [results,Tryz.results119,go_sem,b0,b1,b2,hz,hnb,hnb']) rfl ?_
     exact HF.out _ _ _
end
section
open Go.RowKit

theorem salt_any:∀n,SAtomC n∧SSeqC n∧SAltC n
 | 0=>⟨satom_0,sseq_of satom_0 stwin,salt_of (sseq_of satom_0 stwin)⟩
 | n + 1 => by
  have h:=satom_of (salt_any n).2.2 sclass
  exact⟨h,sseq_of h stwin,salt_of (sseq_of h stwin)⟩
end
section
open Go.RowKit Mac

noncomputable def textOfB (p s:ByteArray):Bool:=@decide (TextOf p s) (Classical.propDecidable _)
theorem textOf_b {p s:ByteArray}{b:Bool}(h:b=true↔TextOf p s):b=textOfB p s:=by
 unfold textOfB
 cases b
 ·exact(@decide_eq_false _ (Classical.propDecidable _) (fun hh=>by have:=h.2 hh;cases this)).symm
 ·exact(@decide_eq_true _ (Classical.propDecidable _) (h.1 rfl)).symm
theorem sMText_any (p s:ByteArray)(hp:p.size≤maxLen)(hs:s.size≤1048576)(w:World):Calls Tryz.prog 29 #[.string p,.string s] w fun e w'=>e=.returned (.bool (textOfB p s))∧Below w.heap.size w w':=
 (smatchText (fun n=>(salt_any n).2.2) p s hp hs w).mono fun e w' ⟨b,he,h,hb⟩=>⟨by rw [he,textOf_b h.out],hb⟩
theorem iMText_any (p s:ByteArray)(hp:p.size≤maxLen)(hs:s.size≤4611686018427387904)(w:World):Calls Tryz.prog 53 #[.string p,.string s] w fun e w'=>e=.returned (.bool (textOfB p s))∧Below w.heap.size w w':=by
 have HC:=hid (fun w=>iPat_any p hp w)
 have HM:=hid (fun d r t w=>imatch s hs d r t w)
 cases ho:patS p.data.toList with
 | none =>
  have HT:Hid (false=textOfB p s):=hid (textOf_b ⟨fun h=>(by cases h),fun⟨t,h,_⟩=>(by rw [ho]at h;cases h)⟩)
  rw [ho]at HC
  clear ho
  go_enter Tryz.func53,Tryz.ntmps53
  go_wp2_with (first
   |(go_at_call 93;((refine(HC.out _).mono ?_);rintro e w1 ⟨rfl,hb⟩)))
  go_ret
  exact⟨by rw [←HT.out];rfl,below_al hb _⟩
 | some t =>
  have HT:Hid (TextOf p s↔Mt s 124 t 0 s.size):=hid ⟨fun⟨t',h,h'⟩=>by rw [ho]at h;cases h;exact h',fun h=>⟨t,ho,h⟩⟩
  have HX:=hid (And.intro (tx_patS ho) (patS_cnt ho 124))
  rw [ho]at HC
  clear ho
  go_enter Tryz.func53,Tryz.ntmps53
  go_wp2_with (first
   |(go_at_call 93;((refine(HC.out _).mono ?_);rintro e w1 ⟨A,c,S,rfl,hown,hb⟩;have HR:=hid (OwN.rd hown);clear hown))
   |(go_at_call 94;(go_loud (refine(HM.out 124 ⟨t.x.op,t.x.text,.slice A t.kids.length c⟩ t _ (RdN.below HR.out (below_al (Below.refl _ _) _)) (HX.out.1.2 124) HX.out.1.1 HX.out.2).mono ?_);rintro e w2 ⟨b,rfl,hB,hb2⟩)))
  go_ret
  exact⟨by rw [←textOf_b (hB.out.trans HT.out.symm)];rfl,below_step (below_al hb _) hb2⟩
end
section
open Go.RowKit NumP

abbrev trueS:ByteArray:=⟨#[116,114,117,101]⟩
abbrev falseS:ByteArray:=⟨#[102,97,108,115,101]⟩
abbrev oneS:ByteArray:=⟨#[49]⟩
abbrev zeroS:ByteArray:=⟨#[48]⟩
inductive BoolIs (s:ByteArray):Option ByteArray→Prop where
 | t (h:s=trueS):BoolIs s (some trueS)
 | t1 (h:s=oneS):BoolIs s (some trueS)
 | f (h:s=falseS):BoolIs s (some falseS)
 | f0 (h:s=zeroS):BoolIs s (some falseS)
 | none (h1:(s.toList == [116,114,117,101])=false) (h2:(s.toList == [49])=false) (h3:(s.toList == [102,97,108,115,101])=false) (h4:(s.toList == [48])=false):BoolIs s none
theorem str_nl {s:ByteArray}{l:List UInt8}(h:s≠⟨l.toArray⟩):(s.toList==l)=false:=by
 have:=str_ne h
 rwa [ByteArray.toList_eq ⟨l.toArray⟩,List.toList_toArray]at this
theorem boolIs_ex (s:ByteArray):∃o,BoolIs s o:=by
 by_cases h1:s=trueS
 ·exact⟨_,.t h1⟩
 by_cases h2:s=oneS
 ·exact⟨_,.t1 h2⟩
 by_cases h3:s=falseS
 ·exact⟨_,.f h3⟩
 by_cases h4:s=zeroS
 ·exact⟨_,.f0 h4⟩
 exact⟨_,.none (str_nl h1) (str_nl h2) (str_nl h3) (str_nl h4)⟩
noncomputable def boolO (s:ByteArray):Option ByteArray:=Classical.choose (boolIs_ex s)
theorem boolO_is (s:ByteArray):BoolIs s (boolO s):=Classical.choose_spec (boolIs_ex s)
noncomputable def intO (l:List Rg)(s:ByteArray):Option ByteArray:=
 match readL s.data.toList with
 | some n=>if inB l n=true then some (fmtS n)else none
 | none=>none
noncomputable def canO (t:Ty)(s:ByteArray):Option ByteArray:=
 if t.k=1 then intO t.rg s
 else if t.k=2 then if (textB s&&inB t.rg s.size&&(emB t.pt || textOfB t.pt s))=true then some s else none
 else if t.k=3 then boolO s
 else if t.k=4 then if memB s t.nm=true then some s else none
 else if t.k=5 then if (!emB s&&textB s)=true then some s else none
 else if t.k=6 then if emB s=true then some s else none
 else none
noncomputable def canonT (t:Ty)(s:ByteArray):Option ByteArray:=if isTyB t=true then canO t s else none
def tupS:Option ByteArray→Value
 | some x=>.tuple #[.string x,.bool true]
 | none=>.tuple #[.string ⟨#[]⟩,.bool false]
end
section
open Go.RowKit NumP

theorem boolIs_val {s v:ByteArray}(h:BoolIs s (some v)):v=trueS∨v=falseS:=by
 cases h with
 | t=>exact .inl rfl
 | t1=>exact .inl rfl
 | f=>exact .inr rfl
 | f0=>exact .inr rfl
theorem boolO_true:boolO trueS=some trueS:=by
 cases e:boolO trueS with
 | none =>
  have h:=boolO_is trueS
  rw [e]at h
  cases h with
  | none h1=>rw [ByteArray.toList_eq]at h1;revert h1;decide
 | some v =>
  have h:=boolO_is trueS
  rw [e]at h
  cases h with
  | t=>rfl
  | t1=>rfl
  | f h=>exact absurd h (by decide)
  | f0 h=>exact absurd h (by decide)
theorem boolO_false:boolO falseS=some falseS:=by
 cases e:boolO falseS with
 | none =>
  have h:=boolO_is falseS
  rw [e]at h
  cases h with
  | none _ _ h1=>rw [ByteArray.toList_eq]at h1;revert h1;decide
 | some v =>
  have h:=boolO_is falseS
  rw [e]at h
  cases h with
  | f=>rfl
  | f0=>rfl
  | t h=>exact absurd h (by decide)
  | t1 h=>exact absurd h (by decide)
theorem boolO_again {s v:ByteArray}(h:boolO s=some v):boolO v=some v:=by
 have h1:=boolO_is s
 rw [h]at h1
 rcases boolIs_val h1 with rfl|rfl
 ·exact boolO_true
 ·exact boolO_false
theorem fmt_dataT (n:Int):(fmtS n).data.toList=fmtL n:=by simp [fmtS]
theorem intO_again {l:List Rg}{s v:ByteArray}(h:intO l s=some v):∃n:Int,v=fmtS n∧(-1000000000≤n∧n≤1000000000)∧inB l n=true∧intO l v=some v:=by
 unfold intO at h
 cases e:readL s.data.toList with
 | none=>rw [e]at h;cases h
 | some n =>
  rw [e]at h
  have hb:=readL_bd e
  by_cases hi:inB l n=true
  ·have h':(if inB l n=true then some (fmtS n)else none)=some v:=h
   rw [if_pos hi]at h'
   cases h'
   refine⟨n,rfl,hb,hi,?_⟩
   unfold intO
   rw [fmt_dataT,readL_fmt hb.1 hb.2]
   exact if_pos hi
  ·have h':(if inB l n=true then some (fmtS n)else none)=some v:=h
   rw [if_neg hi]at h'
   cases h'
theorem canO_again {t:Ty}{s v:ByteArray}(h:canO t s=some v):canO t v=some v:=by
 unfold canO at h ⊢
 split at h
 ·rw [if_pos (by assumption)];obtain⟨_,_,_,_,h1⟩:=intO_again h;exact h1
 rw [if_neg (by assumption)]
 split at h
 ·rw [if_pos (by assumption)]
  split at h
  ·cases h;rw [if_pos (by assumption)]
  ·cases h
 rw [if_neg (by assumption)]
 split at h
 ·rw [if_pos (by assumption)];exact boolO_again h
 rw [if_neg (by assumption)]
 split at h
 ·rw [if_pos (by assumption)]
  split at h
  ·cases h;rw [if_pos (by assumption)]
  ·cases h
 rw [if_neg (by assumption)]
 split at h
 ·rw [if_pos (by assumption)]
  split at h
  ·cases h;rw [if_pos (by assumption)]
  ·cases h
 rw [if_neg (by assumption)]
 split at h
 ·rw [if_pos (by assumption)]
  split at h
  ·cases h;rw [if_pos (by assumption)]
  ·cases h
 cases h
theorem canonT_again {t:Ty}{s v:ByteArray}(h:canonT t s=some v):canonT t v=some v:=by
 unfold canonT at h ⊢
 split at h
 ·rw [if_pos (by assumption)];exact canO_again h
 ·cases h
end
section
open Go.RowKit

theorem valid_any (v:TyV)(t:Ty)(A A':Option Addr)(n c m c':Nat)(h1:v.vr=.slice A n c)(h2:v.vn=.slice A' m c')(w:World)(h:HasTy w v t)(hc:CapN v.vn)(hs:TySz t):
  Calls Tryz.prog 51 #[kindV v] w fun e w'=>e=.returned (.bool (validB t))∧Below w.heap.size w w':=by
 obtain⟨k',rg,nm,pt',ph'⟩:=t
 obtain⟨k,vr,vn,pt,ph⟩:=v
 obtain⟨rfl,hr,hn,rfl,rfl⟩:=h
 obtain rfl:vr=_:=h1
 obtain rfl:vn=_:=h2
 obtain⟨s1,s2,s3⟩:=hs
 dsimp only at*
 by_cases k1:k=1
 ·subst k1;exact valid_1 A n c rg w hr
 by_cases k2:k=2
 ·subst k2;exact valid_2 A n c rg pt s2 w hr
 by_cases k3:k=3
 ·subst k3;exact valid_3 w
 by_cases k4:k=4
 ·subst k4;exact valid_4 A' m c' nm w hn hc s1
 by_cases k5:k=5
 ·subst k5;exact valid_5 ph s3 w
 by_cases k6:k=6
 ·subst k6;exact valid_6 w
 have:=valid_other w
 rw [show kindV ⟨k,.slice A n c,.slice A' m c',pt,ph⟩=.nilIface by unfold kindV;simp only [k1,k2,k3,k4,k5,k6,if_false],show validB ⟨k,rg,nm,pt,ph⟩=false by unfold validB;simp [k1,k2,k3,k4,k5,k6]]
 exact this
theorem kindOf_any (v:TyV)(t:Ty)(w:World)(h:HasTy w v t)(hc:CapN v.vn)(hs:TySz t):
  Calls Tryz.prog 19 #[v.val] w fun e w'=>e=.returned (if isTyB t=true then kindV v else .nilIface)∧Below w.heap.size w w':=by
 obtain⟨A,c,h1,-⟩:=id h.rg
 obtain⟨A',c',h2,-⟩:=id h.nm
 have HD:=hid (fun W=>divide_any v A A' _ c _ c' h1 h2 W)
 have HF:=hid (fun W (hb:Below w.heap.size w W)=>fields_any (restV v) (restT t) W ((h.below hb).rest))
 have HV:=hid (fun W (hb:Below w.heap.size w W)=>valid_any v t A A' _ c _ c' h1 h2 W (h.below hb) hc hs)
 obtain⟨Z,hZ⟩:∃Z,Z=(if isTyB t=true then kindV v else .nilIface):=⟨_,rfl⟩
 have HZ:Hid (Z=if (bareB (restT t)&&validB t)=true then kindV v else .nilIface):=hid hZ
 rw [←hZ]
 clear hZ
 obtain⟨A2,c2,e1,-⟩:=id h.rest.rg
 obtain⟨A3,c3,e2,-⟩:=id h.rest.nm
 clear h hc hs
 obtain⟨k,vr,vn,pt,ph⟩:=v
 obtain rfl:vr=_:=h1
 obtain rfl:vn=_:=h2
 generalize restV ⟨k,.slice A t.rg.length c,.slice A' t.nm.length c',pt,ph⟩=r at HD HF e1 e2
 generalize kindV ⟨k,.slice A t.rg.length c,.slice A' t.nm.length c',pt,ph⟩=K at HD HV HZ
 obtain⟨rk,rr,rn,rp,rh⟩:=r
 obtain rfl:rr=_:=e1
 obtain rfl:rn=_:=e2
 generalize t.rg.length=n at*
 generalize t.nm.length=m at*
 generalize (restT t).rg.length=n2 at*
 generalize (restT t).nm.length=m2 at*
 generalize bareB (restT t)=b at HF HZ
 generalize validB t=q at HV HZ
 have HB0:=hid (Below.refl w.heap.size w)
 have walk1:b=false→Calls Tryz.prog 19 #[(⟨k,.slice A n c,.slice A' m c',pt,ph⟩:TyV).val] w fun e w'=>e=.returned Z∧Below w.heap.size w w':=by
  rintro rfl
  obtain rfl:Z=.nilIface:=HZ.out
  clear HV
  go_enter Tryz.func19,Tryz.ntmps19
  go_wp2_with fail
  refine(HD.out _).mono ?_
  rintro e w1 ⟨rfl,hb1⟩
  have HB1:=hid (below_step (below_al HB0.out _) hb1)
  clear hb1
  go_wp2_with fail
  refine(HF.out _ (below_al HB1.out _)).mono ?_
  rintro e w2 ⟨rfl,hb2⟩
  have HB2:=below_step (below_al HB1.out _) hb2
  go_wp2
  go_ret
  exact⟨rfl,HB2⟩
 have walk2:b=true→Calls Tryz.prog 19 #[(⟨k,.slice A n c,.slice A' m c',pt,ph⟩:TyV).val] w fun e w'=>e=.returned Z∧Below w.heap.size w w':=by
  rintro rfl
  cases q
  ·obtain rfl:Z=.nilIface:=HZ.out
   go_enter Tryz.func19,Tryz.ntmps19
   go_wp2_with fail
   refine(HD.out _).mono ?_
   rintro e w1 ⟨rfl,hb1⟩
   have HB1:=hid (below_step (below_al HB0.out _) hb1)
   clear hb1
   go_wp2_with fail
   refine(HF.out _ (below_al HB1.out _)).mono ?_
   rintro e w2 ⟨rfl,hb2⟩
   have HB2:=hid (below_step (below_al HB1.out _) hb2)
   clear hb2
   go_wp2_with fail
   refine(HV.out _ HB2.out).mono ?_
   rintro e w3 ⟨rfl,hb3⟩
   have HB3:=below_step HB2.out hb3
   go_wp2
   go_ret
   exact⟨rfl,HB3⟩
  ·obtain rfl:Z=K:=HZ.out
   go_enter Tryz.func19,Tryz.ntmps19
   go_wp2_with fail
   refine(HD.out _).mono ?_
   rintro e w1 ⟨rfl,hb1⟩
   have HB1:=hid (below_step (below_al HB0.out _) hb1)
   clear hb1
   go_wp2_with fail
   refine(HF.out _ (below_al HB1.out _)).mono ?_
   rintro e w2 ⟨rfl,hb2⟩
   have HB2:=hid (below_step (below_al HB1.out _) hb2)
   clear hb2
   go_wp2_with fail
   refine(HV.out _ HB2.out).mono ?_
   rintro e w3 ⟨rfl,hb3⟩
   have HB3:=below_step HB2.out hb3
   go_wp2
   go_ret
   exact⟨rfl,HB3⟩
 cases b
 ·exact walk1 rfl
 ·exact walk2 rfl
theorem kindV_held {v:TyV}{t:Ty}(hk:v.k=t.k)(h:isTyB t=true):∃T u,kindV v=.iface T u:=by
 have h6:validB t=true:=by unfold isTyB at h;revert h;cases validB t<;>simp
 unfold kindV
 split;exact⟨_,_,rfl⟩
 split;exact⟨_,_,rfl⟩
 split;exact⟨_,_,rfl⟩
 split;exact⟨_,_,rfl⟩
 split;exact⟨_,_,rfl⟩
 split;exact⟨_,_,rfl⟩
 rename_i k1 k2 k3 k4 k5 k6
 rw [hk]at k1 k2 k3 k4 k5 k6
 unfold validB at h6
 simp [k1,k2,k3,k4,k5,k6]at h6
theorem iIsTy_any (v:TyV)(t:Ty)(w:World)(h:HasTy w v t)(hc:CapN v.vn)(hs:TySz t):
  Calls Tryz.prog 11 #[v.val] w fun e w'=>e=.returned (.bool (isTyB t))∧Below w.heap.size w w':=by
 obtain⟨A,c,h1,-⟩:=id h.rg
 obtain⟨A',c',h2,-⟩:=id h.nm
 have HC:=hid (fun W (hb:Below w.heap.size w W)=>kindOf_any v t W (h.below hb) hc hs)
 have HK:=hid (fun hq=>kindV_held (v:=v) (t:=t) h.k hq)
 have HB0:=hid (Below.refl w.heap.size w)
 clear h hc hs
 obtain⟨k,vr,vn,pt,ph⟩:=v
 obtain rfl:vr=_:=h1
 obtain rfl:vn=_:=h2
 generalize kindV ⟨k,.slice A t.rg.length c,.slice A' t.nm.length c',pt,ph⟩=K at HC HK
 generalize isTyB t=q at HC HK ⊢
 generalize t.rg.length=n at*
 generalize t.nm.length=m at*
 cases q
 ·go_enter Tryz.func11,Tryz.ntmps11
  go_wp2_with fail
  refine(HC.out _ (below_al HB0.out _)).mono ?_
  rintro e w1 ⟨rfl,hb1⟩
  have HB1:=below_step (below_al HB0.out _) hb1
  go_wp2
  go_ret
  exact⟨rfl,HB1⟩
 ·obtain⟨T,u,rfl⟩:=HK.out rfl
  clear HK
  go_enter Tryz.func11,Tryz.ntmps11
  go_wp2_with fail
  refine(HC.out _ (below_al HB0.out _)).mono ?_
  rintro e w1 ⟨rfl,hb1⟩
  have HB1:=below_step (below_al HB0.out _) hb1
  go_wp2
  go_ret
  exact⟨rfl,HB1⟩
end
end Go.Proofs.YtecladbckadijaaGreatDoor
