/- MERGED for a claim. -/
import Derived.Test.YtecladbckadijaaGreatDoorPatT
set_option linter.unusedVariables false
set_option linter.unusedSimpArgs false
set_option maxRecDepth 100000
set_option maxHeartbeats 16000000
namespace Go.Proofs.YtecladbckadijaaGreatDoor
open Go.Lib (hid)
section
open Go.RowKit

theorem own_append {d B g n g' c':Nat}{w w':World}{l:List Pat}{p:Pat}{A:Option Addr}{cc:Nat}{S Sp:Nat→Prop}{R:List PatR}
  (hgrow:∀ {w':World} {v':Value} {r:PatR} {t:Pat} {Sr:Nat→Prop},OwN patK d B w r t Sr→(∀b,S b→Sr b→False)→RowP B w' v' (R++ [r])→w.grownBy w' (some g)→(v'.ownBlock=some g∨∃g,v'.ownBlock=some g∧w.heap.size≤g)→
   OwL patK (d+1) B w' v' (l++ [t]) (fun b=>v'.ownBlock=some b∨(S b∧some g≠some b)∨Sr b))
  (hp:OwN patK d B w ⟨p.x.op,p.x.text,.slice A p.kids.length cc⟩ p Sp) (hdis:∀b,S b→Sp b→False)
  (hrow:RowP B w' (.slice (some ⟨g',0,none⟩) n c') (R++ [⟨p.x.op,p.x.text,.slice A p.kids.length cc⟩])) {o:Obj} (hg:(w.alloc o).grownBy w' (some g)) (hv:g'=g∨w.heap.size<g'):
  ∃S',OwL patK (d+1) B w' (.slice (some ⟨g',0,none⟩) n c') (l++ [p]) S':=by
 refine⟨_,hgrow hp hdis hrow ((World.grownBy_alloc w o (some g)).trans hg) ?_⟩
 rcases hv with rfl|h
 ·exact .inl rfl
 ·exact .inr ⟨g',rfl,by omega⟩
theorem seq_done {A:List UInt8→Option (Pat×List UInt8)}{m:Nat}{l:List UInt8}(h:repL A l=none):seqL A m l=([],l):=by
 cases m with
 | zero=>rfl
 | succ m=>rw [seqL,h]
theorem seq_step {A:List UInt8→Option (Pat×List UInt8)}(hs:Sh A)(h0:A []=none){m m':Nat}{l r:List UInt8}{p:Pat}(hl:l.length≤m)(h:repL A l=some (p,r))(hr:r.length≤m'):seqL A m l=(p::(seqL A m' r).1,(seqL A m' r).2):=by
 have hlt:=(repL_sh hs l p r h).2
 match m,hl with
 | 0,hl=>omega
 | m + 1, hl =>
  rw [seqL,h]
  show(p::(seqL A m r).1,(seqL A m r).2)=_
  rw [seqL_more hs h0 m m' r (by omega) hr]
theorem seq_of {n:Nat}(hA:RepC n):SeqC n:=by
 intro s w hn h30
 have hs9:s.size≤9223372036854775807:=by omega
 have HA:=hid hA
 have HN:=hid hn
 have H30:=hid h30
 have hlen:∀k,(s.data.toList.drop k).length=s.size-k:=fun k=>by simp
 have HL:=hid hlen
 obtain⟨l,hl⟩:∃l,l=s.data.toList:=⟨_,rfl⟩
 have HLL:=hid hl
 rw [←hl]
 have h0:OwL patK (4*n+3) (w.heap.size+1) ((w.alloc (.cells #[.int .i64 0,.string ⟨#[]⟩,.slice none 0 0] 92)).alloc (.cells #[] 92)) (.slice (some ⟨w.heap.size+1,0,none⟩) 0 0) [] (fun b=>b=w.heap.size+1):=by
  have:=owL_new patK (4*n+3) (w.heap.size+1) (w.alloc (.cells #[.int .i64 0,.string ⟨#[]⟩,.slice none 0 0] 92)) (by simp)
  simpa [patK]using this
 have HO0:=hid h0
 have hb0:Below (w.alloc (.cells #[.int .i64 0,.string ⟨#[]⟩,.slice none 0 0] 92)).heap.size (w.alloc (.cells #[.int .i64 0,.string ⟨#[]⟩,.slice none 0 0] 92)) ((w.alloc (.cells #[.int .i64 0,.string ⟨#[]⟩,.slice none 0 0] 92)).alloc (.cells #[] 92)):=below_al (Below.refl _ _) _
 clear h0 hA hn h30 hlen hl
 go_enter Tryz.func131,Tryz.ntmps131
 go_wp2
 go_loopw [4,5] (fun u i wr=>∃(k g c:Nat) (lk:List Pat) (S:Nat→Prop),k≤s.size∧lk.length≤k∧u=.slice (some ⟨g,0,none⟩) lk.length c∧i=.int .i64 k∧Hid (OwL patK (4*n+3) (w.heap.size+1) wr (.slice (some ⟨g,0,none⟩) lk.length c) lk S)∧Hid (seqL (atomF n) s.size l=(lk++(seqL (atomF n) (s.size-k) (l.drop k)).1,(seqL (atomF n) (s.size-k) (l.drop k)).2))∧Below (w.alloc (.cells #[.int .i64 0,.string ⟨#[]⟩,.slice none 0 0] 92)).heap.size (w.alloc (.cells #[.int .i64 0,.string ⟨#[]⟩,.slice none 0 0] 92)) wr) (fun _ i _=>s.size-(intOf i).toNat)
 case atStart=>exact⟨0,w.heap.size+1,0,[],_,by omega,by simp,rfl,rfl,HO0,hid (by simp),hb0⟩
 case round=>
  obtain⟨k,g,c,lk,S,hk,hlk,rfl,rfl,HO,HQ,hbel⟩:=hrel
  clear hb0
  have hC:=fun w=>HA.out (s.extract k s.size) w (by rw [ext_size];have:=HN.out;omega) (by rw [ext_size];have:=H30.out;omega)
  rw [ext_drop,ext_size,←HLL.out]at hC
  have hkl:(k:Int)≤(s.size:Int):=by omega
  cases hrep:repL (atomF n) (l.drop k)with
  | none =>
   rw [hrep]at hC
   have HC:=hid hC
   have HD:Hid (seqP (atomF n) l=(joinP 2 lk,l.drop k)):=hid (by
    have hll:l.length=s.size:=by rw [HLL.out];simp
    unfold seqP;rw [hll,HQ.out,seq_done hrep];simp)
   have HK:Hid ((s.size-(l.drop k).length:Nat)=k):=hid (by have:=HL.out k;rw [←HLL.out]at this;omega)
   clear hC hrep
   rw [HD.out]
   go_wp2_with (first
    |(go_at_call 155;((refine(HC.out _).mono ?_);rintro e w1 ⟨rfl,hb⟩;have hbel1:=below_step hbel hb;have HO1:=hid (HO.out.below hb);clear hbel hb))
    |(go_at_call 132;((refine(iJoin_any (4*n+2) (w.heap.size+1) 2 _ lk S _ (HO1.out.al _)).mono ?_);rintro e w2 ⟨Ak,ck,S',rfl,hn2,hS,hb2⟩;have hbel2:=below_step (below_al hbel1 _) hb2;obtain⟨⟨b0,b1,b2⟩,⟨f0,f1,f2⟩,hz⟩:=box3p hbel2)))
   refine bodyPost_ret (v:=.tuple #[.agg #[.int .i64 (joinP 2 lk).x.op,.string (joinP 2 lk).x.text,.slice Ak (joinP 2 lk).kids.length ck],.int .i64 (k:Int)]) (by simp [results,Tryz.results131,go_sem,b0,b1,b2,hz]) rfl ?_
   exact tree_some (by simpa using hn2) hbel2 (Nat.le_refl _) HK.out
  | some x =>
   obtain⟨p,r⟩:=x
   rw [hrep]at hC
   have hsh:=repL_sh (atomF_sh n) (l.drop k) p r hrep
   have hdl:(l.drop k).length=s.size-k:=by rw [HLL.out];exact HL.out k
   have hr:=hsh.1.drop
   have hrl:=hsh.2
   rw [hdl]at hr hrl
   rw [List.drop_drop]at hr
   obtain⟨j,hj⟩:∃j,s.size-k-r.length=j:=⟨_,rfl⟩
   rw [hj]at hr
   have hj0:0<j:=by omega
   have hkj:k+j≤s.size:=by omega
   have HC:Hid (∀w,Calls Tryz.prog 155 #[.string (s.extract k s.size)] w fun e w'=>∃(A:Option Addr) (c:Nat) (S:Nat→Prop),e=.returned (.tuple #[.agg #[.int .i64 p.x.op,.string p.x.text,.slice A p.kids.length c],.int .i64 (j:Int)])∧OwN patK (4*n+2) w.heap.size w' ⟨p.x.op,p.x.text,.slice A p.kids.length c⟩ p S∧Below w.heap.size w w'):=hid (by rw [←hj];exact hC)
   have HQ2:Hid (seqL (atomF n) s.size l=((lk++ [p])++(seqL (atomF n) (s.size-(k+j)) (l.drop (k+j))).1,(seqL (atomF n) (s.size-(k+j)) (l.drop (k+j))).2)):=hid (by
    rw [HQ.out,seq_step (atomF_sh n) (atomF_nil n) (Nat.le_of_eq hdl) hrep (m':=s.size-(k+j)) (by omega),hr]
    simp)
   have hq0:((j:Int)==0)=false:=by simp only [beq_eq_false_iff_ne,ne_eq];omega
   obtain⟨nk,hnk⟩:∃nk,nk=lk.length:=⟨_,rfl⟩
   have HNK:=hid hnk
   rw [←hnk]at hlk HO ⊢
   have hjb:(j:Int)≤30:=by have:=H30.out;omega
   have hkb:(k:Int)≤30:=by have:=H30.out;omega
   have hnb:nk+1≤1048576:=by have:=H30.out;omega
   have hwr:w.heap.size+1≤wr.heap.size:=by have:=hbel.size;simp at this;omega
   have HST:Hid (∀(w1:World) (A1:Option Addr) (c1:Nat) (S1:Nat→Prop),OwN patK (4*n+2) wr.heap.size w1 ⟨p.x.op,p.x.text,.slice A1 p.kids.length c1⟩ p S1→Below wr.heap.size wr w1→∃R:List PatR,RowP (w.heap.size+1) (w1.alloc (.cells #[.int .i64 p.x.op,.string p.x.text,.slice A1 p.kids.length c1] 92)) (.slice (some ⟨g,0,none⟩) nk c) R∧w.heap.size+1≤g∧w.heap.size+1≤w1.heap.size∧
     ∀g' c' w4,RowP (w.heap.size+1) w4 (.slice (some ⟨g',0,none⟩) (nk+1) c') (R++ [⟨p.x.op,p.x.text,.slice A1 p.kids.length c1⟩])→((w1.alloc (.cells #[.int .i64 p.x.op,.string p.x.text,.slice A1 p.kids.length c1] 92)).alloc (.cells #[.int .i64 p.x.op,.string p.x.text,.slice A1 p.kids.length c1] 92)).grownBy w4 (some g)→(g'=g∨(w1.alloc (.cells #[.int .i64 p.x.op,.string p.x.text,.slice A1 p.kids.length c1] 92)).heap.size<g')→∃S',OwL patK (4*n+3) (w.heap.size+1) w4 (.slice (some ⟨g',0,none⟩) (nk+1) c') (lk++ [p]) S'):=hid (by
    intro w1 A1 c1 S1 ho hb
    have hO1:=(HO.out.below hb).al (.cells #[.int .i64 p.x.op,.string p.x.text,.slice A1 p.kids.length c1] 92)
    obtain⟨R,hrow,hRl,hgrow⟩:=hO1.grow
    refine⟨R,hrow,(hrow.lt (k:=g) rfl).1,Nat.le_trans hwr hb.size,fun g' c' w4 h1 h2 h3=>?_⟩
    exact own_append hgrow ((ho.al _).mono hwr) (fun b hb1 hb2=>absurd (HO.out.lt b hb1).2 (Nat.not_lt.2 (ho.lt b hb2).1)) h1 h2 h3)
   clear hC hsh hdl hr hrl hj hrep HQ hnk
   go_wp2_with (first
    |(go_at_call 155;((refine(HC.out _).mono ?_);rintro e w1 ⟨A1,c1,S1,rfl,ho,hb⟩;have hbel1:=below_step hbel hb;obtain⟨R,hrow,hgB,hw1,hF⟩:=HST.out w1 A1 c1 S1 ho hb;have HF:=hid hF;have hbx:=below_al hbel1 (.cells #[.int .i64 p.x.op,.string p.x.text,.slice A1 p.kids.length c1] 92);clear hbel hb hF ho))
    |(at_builtin;refine wpList_pat_append rfl _ _ rfl (w.heap.size+1) g nk c R rfl hrow p.x.op p.x.text A1 p.kids.length c1 (w1.heap.size+1) rfl (by simp) hnb (by simp;omega) (nk+1) rfl ?_;intro g' c' w4 hrow4 hg4 hg4'))
   go_roundw
   case rel=>
    obtain⟨S',hS'⟩:=HF.out g' c' w4 hrow4 hg4 hg4'
    have hl1:(lk++ [p]).length=nk+1:=by rw [List.length_append,←HNK.out];rfl
    exact⟨k+j,g',c',lk++ [p],S',by omega,by rw [hl1];omega,by rw [hl1],by go_num,by rw [hl1];exact hid hS',HQ2,(below_al hbx _).grown hg4 (below_al hbx _).size (fun _ h=>by cases h;simp;omega)⟩
   case measure=>simp [intOf];omega
def contL (A:List UInt8→Option (Pat×List UInt8))(m:Nat):List UInt8→List Pat×List UInt8
 | []=>([],[])
 | c::r=>if c=124 then altL A m r else([],c::r)
theorem alt_unroll {A:List UInt8→Option (Pat×List UInt8)}(h:Sh A){m:Nat}{l:List UInt8}(hl:l.length≤m):altL A m l=((seqP A l).1::(contL A m (seqP A l).2).1,(contL A m (seqP A l).2).2):=by
 rw [altL_more h m (m+1) l hl (by omega),altL]
 cases (seqP A l).2 with
 | nil=>rfl
 | cons c r =>
  simp only [contL]
  split<;>rfl
theorem alt_of {n:Nat}(hA:SeqC n):AltC n:=by
 intro s w hn h30
 have hs9:s.size≤9223372036854775807:=by omega
 have HA:=hid hA
 have HN:=hid hn
 have H30:=hid h30
 have hlen:∀k,(s.data.toList.drop k).length=s.size-k:=fun k=>by simp
 have HL:=hid hlen
 obtain⟨l,hl⟩:∃l,l=s.data.toList:=⟨_,rfl⟩
 have HLL:=hid hl
 have hll:l.length=s.size:=by rw [hl];simp
 have hAs:=fun w=>hA s w hn h30
 rw [←hl]at hAs ⊢
 have hsuf:=seqP_suf (atomF_sh n) l
 have hun:=alt_unroll (atomF_sh n) (m:=s.size) (l:=l) (by omega)
 obtain⟨⟨p0,r0⟩,hpr⟩:∃x,x=seqP (atomF n) l:=⟨_,rfl⟩
 rw [←hpr]at hAs hsuf hun
 have hr0:=hsuf.drop
 have hrl0:=hsuf.len
 simp only [hll]at hr0 hrl0
 obtain⟨k0,hk0⟩:∃k,s.size-r0.length=k:=⟨_,rfl⟩
 rw [hk0]at hr0
 have HC0:Hid (∀w,Calls Tryz.prog 131 #[.string s] w fun e w'=>∃(A:Option Addr) (c:Nat) (S:Nat→Prop),e=.returned (.tuple #[.agg #[.int .i64 p0.x.op,.string p0.x.text,.slice A p0.kids.length c],.int .i64 (k0:Int)])∧OwN patK (4*n+3) w.heap.size w' ⟨p0.x.op,p0.x.text,.slice A p0.kids.length c⟩ p0 S∧Below w.heap.size w w'):=hid (by rw [←hk0];exact hAs)
 have HQ0:Hid (altL (atomF n) s.size l=([p0]++(contL (atomF n) s.size (l.drop k0)).1,(contL (atomF n) s.size (l.drop k0)).2)):=hid (by rw [hun,hr0];rfl)
 have hk0s:k0≤s.size:=by omega
 have HLn:Hid (l.length=s.size):=hid hll
 clear hA hn h30 hlen hl hll hAs hsuf hun hpr hr0 hrl0 hk0
 go_enter Tryz.func115,Tryz.ntmps115
 go_wp2_with (go_at_call 131;((refine(HC0.out _).mono ?_);rintro e w1 ⟨A0,c0,S0,rfl,ho0,hb1⟩))
 have hO0:OwL patK (4*n+4) (w.heap.size+1) ((w1.alloc (.cells #[.int .i64 p0.x.op,.string p0.x.text,.slice A0 p0.kids.length c0] 92)).alloc (.cells #[.int .i64 p0.x.op,.string p0.x.text,.slice A0 p0.kids.length c0] 92)) (.slice (some ⟨w1.heap.size+1,0,none⟩) 1 1) [p0] (fun b=>b=w1.heap.size+1∨S0 b):=by
  have h1:OwN patK (4*n+3) (w.heap.size+1) w1 ⟨p0.x.op,p0.x.text,.slice A0 p0.kids.length c0⟩ p0 S0:=ho0.mono (by simp)
  have hz:=hb1.size
  simp at hz
  have h2:=owL_one (h1.al (.cells #[.int .i64 p0.x.op,.string p0.x.text,.slice A0 p0.kids.length c0] 92)) (by simp;omega) (by decide) (pat_cells _ _ _ _ _)
  simpa [patK,PatR.enc]using h2
 have HO0:=hid hO0
 have hbl0:=below_al (below_al hb1 (.cells #[.int .i64 p0.x.op,.string p0.x.text,.slice A0 p0.kids.length c0] 92)) (.cells #[.int .i64 p0.x.op,.string p0.x.text,.slice A0 p0.kids.length c0] 92)
 clear hO0 ho0 hb1
 go_loopw [6,5] (fun u i wr=>∃(k g c:Nat) (lk:List Pat) (S:Nat→Prop),k≤s.size∧lk.length≤k+1∧u=.slice (some ⟨g,0,none⟩) lk.length c∧i=.int .i64 k∧Hid (OwL patK (4*n+4) (w.heap.size+1) wr (.slice (some ⟨g,0,none⟩) lk.length c) lk S)∧Hid (altL (atomF n) s.size l=(lk++(contL (atomF n) s.size (l.drop k)).1,(contL (atomF n) s.size (l.drop k)).2))∧Below (w.alloc (.cells #[.int .i64 0,.string ⟨#[]⟩,.slice none 0 0] 92)).heap.size (w.alloc (.cells #[.int .i64 0,.string ⟨#[]⟩,.slice none 0 0] 92)) wr) (fun _ i _=>s.size-(intOf i).toNat)
 case atStart=>exact⟨k0,w1.heap.size+1,1,[p0],_,hk0s,by simp,rfl,rfl,HO0,HQ0,hbl0⟩
 case round=>
  obtain⟨k,g,c,lk,S,hk,hlk,rfl,rfl,HO,HQ,hbel⟩:=hrel
  clear hbl0
  by_cases hgo:∃h:k<s.size,s[k]=124
  ·obtain⟨hlt,h124⟩:=hgo
   have hq:((s[k].toNat:Int)==124)=true:=by rw [h124];rfl
   have hd:l.drop k=124::l.drop (k+1):=by rw [HLL.out,data_drop s k hlt,h124]
   have hC:=fun w=>HA.out (s.extract (k+1) s.size) w (by rw [ext_size];have:=HN.out;omega) (by rw [ext_size];have:=H30.out;omega)
   rw [ext_drop,ext_size,←HLL.out]at hC
   have hdl:(l.drop (k+1)).length=s.size-(k+1):=by rw [HLL.out];exact HL.out (k+1)
   have hun:=alt_unroll (atomF_sh n) (m:=s.size) (l:=l.drop (k+1)) (by omega)
   have hcl:contL (atomF n) s.size (l.drop k)=altL (atomF n) s.size (l.drop (k+1)):=by rw [hd];rfl
   have hsuf:=seqP_suf (atomF_sh n) (l.drop (k+1))
   obtain⟨⟨p,r⟩,hpr⟩:∃x,x=seqP (atomF n) (l.drop (k+1)):=⟨_,rfl⟩
   rw [←hpr]at hC hsuf hun
   have hr:=hsuf.drop
   have hrl:=hsuf.len
   simp only [hdl]at hr hrl
   rw [List.drop_drop]at hr
   obtain⟨j,hj⟩:∃j,s.size-(k+1)-r.length=j:=⟨_,rfl⟩
   rw [hj]at hr
   have hkj:k+1+j≤s.size:=by omega
   have HC:Hid (∀w,Calls Tryz.prog 131 #[.string (s.extract (k+1) s.size)] w fun e w'=>∃(A:Option Addr) (c:Nat) (S:Nat→Prop),e=.returned (.tuple #[.agg #[.int .i64 p.x.op,.string p.x.text,.slice A p.kids.length c],.int .i64 (j:Int)])∧OwN patK (4*n+3) w.heap.size w' ⟨p.x.op,p.x.text,.slice A p.kids.length c⟩ p S∧Below w.heap.size w w'):=hid (by rw [←hj];exact hC)
   have HQ2:Hid (altL (atomF n) s.size l=((lk++ [p])++(contL (atomF n) s.size (l.drop (k+1+j))).1,(contL (atomF n) s.size (l.drop (k+1+j))).2)):=hid (by
    rw [HQ.out,hcl,hun,hr];simp)
   obtain⟨nk,hnk⟩:∃nk,nk=lk.length:=⟨_,rfl⟩
   have HNK:=hid hnk
   rw [←hnk]at hlk HO ⊢
   have hjb:(j:Int)≤30:=by have:=H30.out;omega
   have hkb:(k:Int)≤30:=by have:=H30.out;omega
   have hnb:nk+1≤1048576:=by have:=H30.out;omega
   have hlk1:(k:Int)+1≤(s.size:Int):=by omega
   have hlt1:(k:Int)<(s.size:Int):=by omega
   have hwr:w.heap.size+1≤wr.heap.size:=by have:=hbel.size;simp at this;omega
   have HST:Hid (∀(w1:World) (A1:Option Addr) (c1:Nat) (S1:Nat→Prop),OwN patK (4*n+3) wr.heap.size w1 ⟨p.x.op,p.x.text,.slice A1 p.kids.length c1⟩ p S1→Below wr.heap.size wr w1→∃R:List PatR,RowP (w.heap.size+1) (w1.alloc (.cells #[.int .i64 p.x.op,.string p.x.text,.slice A1 p.kids.length c1] 92)) (.slice (some ⟨g,0,none⟩) nk c) R∧w.heap.size+1≤g∧w.heap.size+1≤w1.heap.size∧
     ∀g' c' w4,RowP (w.heap.size+1) w4 (.slice (some ⟨g',0,none⟩) (nk+1) c') (R++ [⟨p.x.op,p.x.text,.slice A1 p.kids.length c1⟩])→((w1.alloc (.cells #[.int .i64 p.x.op,.string p.x.text,.slice A1 p.kids.length c1] 92)).alloc (.cells #[.int .i64 p.x.op,.string p.x.text,.slice A1 p.kids.length c1] 92)).grownBy w4 (some g)→(g'=g∨(w1.alloc (.cells #[.int .i64 p.x.op,.string p.x.text,.slice A1 p.kids.length c1] 92)).heap.size<g')→∃S',OwL patK (4*n+4) (w.heap.size+1) w4 (.slice (some ⟨g',0,none⟩) (nk+1) c') (lk++ [p]) S'):=hid (by
    intro w1 A1 c1 S1 ho hb
    have hO1:=(HO.out.below hb).al (.cells #[.int .i64 p.x.op,.string p.x.text,.slice A1 p.kids.length c1] 92)
    obtain⟨R,hrow,hRl,hgrow⟩:=hO1.grow
    refine⟨R,hrow,(hrow.lt (k:=g) rfl).1,Nat.le_trans hwr hb.size,fun g' c' w4 h1 h2 h3=>?_⟩
    exact own_append hgrow ((ho.al _).mono hwr) (fun b hb1 hb2=>absurd (HO.out.lt b hb1).2 (Nat.not_lt.2 (ho.lt b hb2).1)) h1 h2 h3)
   clear hC hdl hun hcl hsuf hpr hr hrl hj HQ hnk hd h124
   go_wp2_with (first
    |(go_at_call 131;((refine(HC.out _).mono ?_);rintro e w2 ⟨A1,c1,S1,rfl,ho,hb⟩;have hbel1:=below_step hbel hb;obtain⟨R,hrow,hgB,hw1,hF⟩:=HST.out w2 A1 c1 S1 ho hb;have HF:=hid hF;have hbx:=below_al hbel1 (.cells #[.int .i64 p.x.op,.string p.x.text,.slice A1 p.kids.length c1] 92);clear hbel hb hF ho))
    |(at_builtin;refine wpList_pat_append rfl _ _ rfl (w.heap.size+1) g nk c R rfl hrow p.x.op p.x.text A1 p.kids.length c1 (w2.heap.size+1) rfl (by simp) hnb (by simp;omega) (nk+1) rfl ?_;intro g' c' w4 hrow4 hg4 hg4'))
   go_roundw
   case rel=>
    obtain⟨S',hS'⟩:=HF.out g' c' w4 hrow4 hg4 hg4'
    have hl1:(lk++ [p]).length=nk+1:=by rw [List.length_append,←HNK.out];rfl
    exact⟨k+1+j,g',c',lk++ [p],S',by omega,by rw [hl1];omega,by rw [hl1],by go_num,by rw [hl1];exact hid hS',HQ2,(below_al hbx _).grown hg4 (below_al hbx _).size (fun _ h=>by cases h;simp;omega)⟩
   case measure=>simp [intOf];omega
  ·have hcont:contL (atomF n) s.size (l.drop k)=([],l.drop k):=by
    by_cases hlt:k<s.size
    ·rw [HLL.out,data_drop s k hlt]
     exact if_neg fun e=>hgo ⟨hlt,e⟩
    ·rw [HLL.out,List.drop_eq_nil_of_le (by simp;omega)];rfl
   have HD:Hid (altP (atomF n) l=(joinP 3 lk,l.drop k)):=hid (by
    unfold altP;rw [HLn.out,HQ.out,hcont];simp)
   have HK:Hid ((s.size-(l.drop k).length:Nat)=k):=hid (by have:=HL.out k;rw [←HLL.out]at this;omega)
   have HG:=hid hgo
   clear hcont
   by_cases hlt:k<s.size
   ·have hq:((s[k].toNat:Int)==124)=false:=byte_ne (d:=124) (fun e=>HG.out ⟨hlt,e⟩)
    have hlt1:(k:Int)<(s.size:Int):=by omega
    clear hgo
    go_wp2_with (go_at_call 132;((refine(iJoin_any (4*n+3) (w.heap.size+1) 3 _ lk S _ HO.out).mono ?_);rintro e w2 ⟨Ak,ck,S',rfl,hn2,hS,hb2⟩;have hbel2:=below_step hbel hb2;obtain⟨⟨b0,b1,b2⟩,⟨f0,f1,f2⟩,hz⟩:=box3p hbel2))
    refine bodyPost_ret (v:=.tuple #[.agg #[.int .i64 (joinP 3 lk).x.op,.string (joinP 3 lk).x.text,.slice Ak (joinP 3 lk).kids.length ck],.int .i64 (k:Int)]) (by simp [results,Tryz.results115,go_sem,b0,b1,b2,hz]) rfl ?_
    rw [HD.out]
    exact tree_some (by simpa using hn2) hbel2 (Nat.le_refl _) HK.out
   ·have hge:¬(k:Int)<(s.size:Int):=by omega
    clear hgo
    go_wp2_with (go_at_call 132;((refine(iJoin_any (4*n+3) (w.heap.size+1) 3 _ lk S _ HO.out).mono ?_);rintro e w2 ⟨Ak,ck,S',rfl,hn2,hS,hb2⟩;have hbel2:=below_step hbel hb2;obtain⟨⟨b0,b1,b2⟩,⟨f0,f1,f2⟩,hz⟩:=box3p hbel2))
    refine bodyPost_ret (v:=.tuple #[.agg #[.int .i64 (joinP 3 lk).x.op,.string (joinP 3 lk).x.text,.slice Ak (joinP 3 lk).kids.length ck],.int .i64 (k:Int)]) (by simp [results,Tryz.results115,go_sem,b0,b1,b2,hz]) rfl ?_
    rw [HD.out]
    exact tree_some (by simpa using hn2) hbel2 (Nat.le_refl _) HK.out
theorem atom_0:AtomC 0:=by
 intro s w hn h30
 have h0:s.size=0:=by omega
 have he:s.data.toList=[]:=by rw [str_empty h0]
 have hem:s.toList.isEmpty=true:=by rw [ByteArray.toList_eq,he];rfl
 have hem2:s.toList=[]:=by rw [ByteArray.toList_eq,he]
 rw [he,atomF_nil]
 clear he h0 hn h30
 go_enter Tryz.func175,Tryz.ntmps175
 go_wp2
 refine bodyPost_ret (v:=.tuple #[.agg #[.int .i64 0,.string ⟨#[]⟩,.slice none 0 0],.int .i64 0]) (by simp [results,Tryz.results175,go_sem]) rfl ?_
 exact⟨rfl,below_al (Below.refl _ _) _⟩
theorem atom_any (hK:ClassC):∀n,AtomC n
 | 0=>atom_0
 | n+1=>atom_of (inner_of (alt_of (seq_of (rep_of (atom_any hK n))))) hK
theorem alt_any (hK:ClassC)(n:Nat):AltC n:=alt_of (seq_of (rep_of (atom_any hK n)))
def ParseOut (o:Option Pat)(w:World)(e:Ending)(w':World):Prop:=match o with
 | none=>e=.returned (.tuple #[.agg #[.int .i64 0,.string ⟨#[]⟩,.slice none 0 0],.bool false])∧Below w.heap.size w w'
 | some p=>∃(A:Option Addr) (c:Nat) (S:Nat→Prop),e=.returned (.tuple #[.agg #[.int .i64 p.x.op,.string p.x.text,.slice A p.kids.length c],.bool true])∧OwN patK 124 w.heap.size w' ⟨p.x.op,p.x.text,.slice A p.kids.length c⟩ p S∧Below w.heap.size w w'
theorem iParsePat_any (hK:ClassC)(s:ByteArray)(hs:s.size≤maxLen)(w:World):Calls Tryz.prog 93 #[.string s] w (ParseOut (patS s.data.toList) w):=by
 unfold maxLen at hs
 have hll:s.data.toList.length=s.size:=by simp
 unfold patS
 rw [hll]
 by_cases h30:30<s.size
 ·rw [if_pos h30]
  have hq:decide ((30:Int)<(s.size:Int))=true:=by simp;omega
  have hq':(30:Int)<(s.size:Int):=by omega
  clear h30 hll
  go_enter Tryz.func93,Tryz.ntmps93
  go_wp2
  refine bodyPost_ret (v:=.tuple #[.agg #[.int .i64 0,.string ⟨#[]⟩,.slice none 0 0],.bool false]) (by simp [results,Tryz.results93,go_sem]) rfl ?_
  exact⟨rfl,below_al (Below.refl _ _) _⟩
 ·rw [if_neg h30]
  have hC:=fun w=>alt_any hK s.size s w (Nat.le_refl _) (by omega)
  have hsuf:=altP_suf (atomF_sh s.size) s.data.toList
  obtain⟨⟨p,r⟩,hpr⟩:∃x,x=altP (atomF s.size) s.data.toList:=⟨_,rfl⟩
  rw [←hpr]at hC hsuf ⊢
  have hrl:=hsuf.len
  simp only [hll]at hrl ⊢
  obtain⟨k,hk⟩:∃k,s.size-r.length=k:=⟨_,rfl⟩
  have HC:Hid (∀w,Calls Tryz.prog 115 #[.string s] w fun e w'=>∃(A:Option Addr) (c:Nat) (S:Nat→Prop),e=.returned (.tuple #[.agg #[.int .i64 p.x.op,.string p.x.text,.slice A p.kids.length c],.int .i64 (k:Int)])∧OwN patK (4*s.size+4) w.heap.size w' ⟨p.x.op,p.x.text,.slice A p.kids.length c⟩ p S∧Below w.heap.size w w'):=hid (by rw [←hk];exact hC)
  have hq:¬(30:Int)<(s.size:Int):=by omega
  have H30:=hid h30
  by_cases hr:r=[]
  ·rw [if_pos hr]
   have hks:k=s.size:=by rw [hr]at hk;simpa using hk.symm
   have hq2:((k:Int) != (s.size:Int))=false:=by simp;omega
   have HKS:=hid hks
   clear hll h30 hC hsuf hpr hrl hk hr hks
   go_enter Tryz.func93,Tryz.ntmps93
   go_wp2_with (go_at_call 115;((refine(HC.out _).mono ?_);rintro e w1 ⟨A,c,S,rfl,ho,hb⟩;obtain⟨⟨b0,b1,b2⟩,⟨f0,f1,f2⟩,hz⟩:=box3p hb))
   refine bodyPost_ret (v:=.tuple #[.agg #[.int .i64 p.x.op,.string p.x.text,.slice A p.kids.length c],.bool true]) (by simp [results,Tryz.results93,go_sem,b0,b1,b2,hz]) rfl ?_
   exact⟨A,c,S,rfl,(((((OwN.set ho (by simp)).set (by simp)).set (by simp)).al _).mono (by simp)).to (by have:=H30.out;omega),below_al (set3_below hb) _⟩
  ·rw [if_neg hr]
   have hks:k≠s.size:=by
    have:=List.length_pos_iff.2 hr
    omega
   have hq2:((k:Int) != (s.size:Int))=true:=by simp;omega
   have HKS:=hid hks
   clear hll h30 hC hsuf hpr hrl hk hr hks
   go_enter Tryz.func93,Tryz.ntmps93
   go_wp2_with (go_at_call 115;((refine(HC.out _).mono ?_);rintro e w1 ⟨A,c,S,rfl,ho,hb⟩;obtain⟨⟨b0,b1,b2⟩,⟨f0,f1,f2⟩,hz⟩:=box3p hb))
   refine bodyPost_ret (v:=.tuple #[.agg #[.int .i64 0,.string ⟨#[]⟩,.slice none 0 0],.bool false]) (by simp [results,Tryz.results93,go_sem,b0,b1,b2,hz]) rfl ?_
   exact⟨rfl,below_al (set3_below hb) _⟩
theorem iIsPat_any (hK:ClassC)(s:ByteArray)(hs:s.size≤maxLen)(w:World):Calls Tryz.prog 91 #[.string s] w fun e w'=>e=.returned (.bool (patS s.data.toList).isSome)∧Below w.heap.size w w':=by
 have HC:=hid (fun w=>iParsePat_any hK s hs w)
 unfold maxLen at hs
 cases ho:patS s.data.toList with
 | none =>
  rw [ho]at HC
  clear ho
  go_enter Tryz.func91,Tryz.ntmps91
  go_wp2_with (go_at_call 93;((refine(HC.out _).mono ?_);rintro e w1 ⟨rfl,hb⟩))
  go_ret
  exact⟨rfl,below_al hb _⟩
 | some p =>
  rw [ho]at HC
  clear ho
  go_enter Tryz.func91,Tryz.ntmps91
  go_wp2_with (go_at_call 93;((refine(HC.out _).mono ?_);rintro e w1 ⟨A,c,S,rfl,_,hb⟩))
  go_ret
  exact⟨rfl,below_al hb _⟩
end
section
open Go.RowKit

theorem PS.grown {w w':World}{b g:Nat}{s:ByteArray}{i:Nat}{bad:Bool}(h:PS w b s i bad)(hg:w.grownBy w' (some g))(hne:g≠b):PS w' b s i bad:=
  (hg.block b h.lt (fun e=>hne (Option.some.inj e).symm)).trans h
theorem turns_grown {S:Nat→Prop}{W w w':World}{g:Nat}(h:TurnsAt S W w)(hg:w.grownBy w' (some g))(hn:W.heap.size≤g):TurnsAt S W w':=
  ⟨hg.os.trans h.os,hg.tape.trans h.tape,hg.output.trans h.output,Nat.le_trans h.size hg.size,fun q hq hs=>(hg.block q (Nat.lt_of_lt_of_le hq h.size) (fun e=>by have:=Option.some.inj e;omega)).trans (h.block q hq hs)⟩
def Slc (R:List PatR):Prop:=∀r∈R,∃A m c,r.kv=.slice A m c
theorem slc_snoc {R:List PatR}(h:Slc R)(op:Int)(t:ByteArray)(A:Option Addr)(m c:Nat):Slc (R++ [⟨op,t,.slice A m c⟩]):=fun r hr=>by
  rcases List.mem_append.1 hr with hr|hr
  · exact h r hr
  · rw [List.mem_singleton.1 hr];exact⟨A,m,c,rfl⟩
theorem slc_own {d B:Nat}{w:World}{R:List PatR}{l:List Pat}{K:Nat→Nat→Prop}(hl:R.length=l.length)(h:∀i (h:i<R.length) (h':i<l.length),OwN patK d B w (R[i]:PatR) l[i] (K i)):Slc R:=fun r hr=>by
  obtain⟨i,hi,rfl⟩:=List.getElem_of_mem hr
  obtain⟨A,c,e⟩:=OwN.slice (h i hi (by rw [←hl];exact hi))
  exact⟨A,_,c,by rw [e]⟩
theorem RowP.first {B g n c:Nat}{w:World}{R:List PatR}(h:RowP B w (.slice (some ⟨g,0,none⟩) n c) R)(hR:0<R.length):w.cell? ⟨g,0,none⟩=some (.int .i64 R[0].op)∧w.cell? ⟨g,1,none⟩=some (.string R[0].text)∧w.cell? ⟨g,2,none⟩=some R[0].kv:=by
  have hz:∀r:PatR,r.enc.length=3:=fun _=>rfl
  refine⟨?_,?_,?_⟩
  · have:=RowR.cell hz h hR (j:=0) (x:=.int .i64 R[0].op) rfl;simpa using this
  · have:=RowR.cell hz h hR (j:=1) (x:=.string R[0].text) rfl;simpa using this
  · have:=RowR.cell hz h hR (j:=2) (x:=R[0].kv) rfl;simpa using this
def Col (d b:Nat)(s:ByteArray)(w0:World)(ok:Nat→List Pat→Prop)(bad:Prop)(g n c G:Nat)(w:World):Prop:=
  (∃(k:Nat) (lk:List Pat) (S:Nat→Prop),k≤s.size∧n=lk.length∧n≤k+1∧G=s.size-k+1∧PS w b s k false∧OwL patK (d+1) (w0.heap.size+1) w (.slice (some ⟨g,0,none⟩) n c) lk S∧ok k lk)∨
  (∃(j:Nat) (R:List PatR),G=0∧PS w b s j true∧RowP (w0.heap.size+1) w (.slice (some ⟨g,0,none⟩) n c) R∧R.length=n∧Slc R∧bad)
theorem col_good {d b g n c k':Nat}{s:ByteArray}{w0 wr w1 w2:World}{ok:Nat→List Pat→Prop}{bad:Prop}{lk:List Pat}{S Sp:Nat→Prop}{p:Pat}{A:Option Addr}{cc:Nat}
    (hO:OwL patK (d+1) (w0.heap.size+1) wr (.slice (some ⟨g,0,none⟩) n c) lk S) (hn:n=lk.length) (hbl:b<w0.heap.size) (h01:w0.heap.size+1≤w1.heap.size) (hr1:wr.heap.size≤w1.heap.size) (ht:RT b wr w2)
    (hp:OwN patK d w1.heap.size w2 ⟨p.x.op,p.x.text,.slice A p.kids.length cc⟩ p Sp) (hP:PS w2 b s k' false) (hk:k'≤s.size) (hnk:n≤k') (hok:ok k' (lk++ [p])):
    ∃R:List PatR,RowP (w0.heap.size+1) w2 (.slice (some ⟨g,0,none⟩) n c) R∧w0.heap.size+1≤g∧(∀g' c' w4 o,RowP (w0.heap.size+1) w4 (.slice (some ⟨g',0,none⟩) (n+1) c') (R++ [⟨p.x.op,p.x.text,.slice A p.kids.length cc⟩])→(w2.alloc o).grownBy w4 (some g)→(g'=g∨w2.heap.size<g')→Col d b s w0 ok bad g' (n+1) c' (s.size-k'+1) w4):=by
  have hO2:=hO.apart ht (fun q hq e=>by have:=(hO.lt q hq).1;omega)
  obtain⟨R,hrow,hRl,hgrow⟩:=hO2.grow
  have hgB:w0.heap.size+1≤g:=(hrow.lt (k:=g) rfl).1
  refine⟨R,hrow,hgB,fun g' c' w4 o h1 h2 h3=>?_⟩
  obtain⟨S',hS'⟩:=own_append hgrow (hp.mono h01) (fun q h1 h2=>absurd (hO.lt q h1).2 (Nat.not_lt.2 (Nat.le_trans hr1 (hp.lt q h2).1))) h1 h2 h3
  exact .inl ⟨k',lk++ [p],S',hk,by rw [List.length_append,←hn];rfl,by omega,rfl,(hP.al o).grown h2 (by omega),hS',hok⟩
theorem col_bad {d b g n c j:Nat}{s:ByteArray}{w0 wr w2:World}{ok:Nat→List Pat→Prop}{bad:Prop}{lk:List Pat}{S:Nat→Prop}{op:Int}{text:ByteArray}{A:Option Addr}{m cc:Nat}
    (hO:OwL patK (d+1) (w0.heap.size+1) wr (.slice (some ⟨g,0,none⟩) n c) lk S) (hn:n=lk.length) (hbl:b<w0.heap.size) (ht:RT b wr w2) (hP:PS w2 b s j true) (hbad:bad):
    ∃R:List PatR,RowP (w0.heap.size+1) w2 (.slice (some ⟨g,0,none⟩) n c) R∧w0.heap.size+1≤g∧(∀g' c' w4 o,RowP (w0.heap.size+1) w4 (.slice (some ⟨g',0,none⟩) (n+1) c') (R++ [⟨op,text,.slice A m cc⟩])→(w2.alloc o).grownBy w4 (some g)→Col d b s w0 ok bad g' (n+1) c' 0 w4):=by
  have hO2:=hO.apart ht (fun q hq e=>by have:=(hO.lt q hq).1;omega)
  obtain⟨R,K,hrow,hRl,hK,_⟩:=OwP.parts hO2
  have hgB:w0.heap.size+1≤g:=(hrow.lt (k:=g) rfl).1
  refine⟨R,hrow,hgB,fun g' c' w4 o h1 h2=>.inr ⟨j,_,rfl,(hP.al o).grown h2 (by omega),h1,?_,slc_snoc (slc_own hRl hK) _ _ _ _ _,hbad⟩⟩
  rw [List.length_append,hRl,←hn];rfl
theorem salt_of {n:Nat}(hS:SSeqC n):SAltC n:=by
  intro b s i w hP h30 hi hn
  have hbl:=hP.lt
  have hnb:¬w.heap.size=b:=by omega
  have hnb':¬b=w.heap.size:=by omega
  have hs:s.size≤maxLen:=by unfold maxLen;omega
  have hs9:s.size≤9223372036854775807:=by omega
  have hP0:=hP.al (.cells #[.int .i64 0,.string ⟨#[]⟩,.slice none 0 0] 92)
  have hlen:∀k,(s.data.toList.drop k).length=s.size-k:=fun k=>by simp
  obtain⟨l0,hl0⟩:∃l0,l0=s.data.toList.drop i:=⟨_,rfl⟩
  rw [←hl0]
  have hm:l0.length=s.size-i:=by rw [hl0];exact hlen i
  obtain⟨okA,hokA⟩:∃okA:Nat→List Pat→Prop,okA=fun k lk=>i≤k∧okR (s.data.toList.drop k)=true∧altL (atomF n) l0.length l0=(lk++(contL (atomF n) l0.length (s.data.toList.drop k)).1,(contL (atomF n) l0.length (s.data.toList.drop k)).2):=⟨_,rfl⟩
  obtain⟨badA,hbadA⟩:∃badA:Prop,badA=(okR (altP (atomF n) l0).2=false):=⟨_,rfl⟩
  have hseq:∀(k:Nat) (lk:List Pat),i≤k→k≤s.size→altL (atomF n) l0.length l0=(lk++(altL (atomF n) l0.length (s.data.toList.drop k)).1,(altL (atomF n) l0.length (s.data.toList.drop k)).2)→
      ∃ (p : Pat) (k' : Nat), k ≤ k' ∧ k' ≤ s.size ∧ ((okR (s.data.toList.drop k') = true ∧ okA k' (lk ++ [p]) ∧ ∀ w, PS w b s k false → Calls Tryz.prog 119 #[.pointer (some ⟨b, 0, none⟩)] w fun e w' => ∃ (A : Option Addr) (c : Nat) (S : Nat → Prop), e = .returned (.agg #[.int .i64 p.x.op, .string p.x.text, .slice A p.kids.length c]) ∧ OwN patK (4 * n + 3) w.heap.size w' ⟨p.x.op, p.x.text, .slice A p.kids.length c⟩ p S ∧ PS w' b s k' false ∧ RT b w w') ∨
        (badA∧∀w,PS w b s k false→Calls Tryz.prog 119 #[.pointer (some ⟨b,0,none⟩)] w fun e w'=>∃(op:Int) (text:ByteArray) (A:Option Addr) (m c j:Nat),e=.returned (.agg #[.int .i64 op,.string text,.slice A m c])∧PS w' b s j true∧RT b w w')):=by
    intro k lk hik hks halt
    have hun:=alt_unroll (atomF_sh n) (m:=l0.length) (l:=s.data.toList.drop k) (by rw [hlen,hm];omega)
    have hsuf:=seqP_suf (atomF_sh n) (s.data.toList.drop k)
    have hC:=fun w hP=>hS b s k w hP h30 hks (by omega)
    obtain⟨⟨p,r⟩,hpr⟩:∃x,x=seqP (atomF n) (s.data.toList.drop k):=⟨_,rfl⟩
    rw [←hpr]at hun hsuf hC
    have hr:=hsuf.drop
    have hrl:=hsuf.len
    simp only [hlen]at hr hrl hC
    rw [List.drop_drop]at hr
    have hkk:k+(s.size-k-r.length)=s.size-r.length:=by omega
    rw [hkk]at hr
    refine⟨p,s.size-r.length,by omega,by omega,?_⟩
    rw [hun]at halt
    cases hok:okR r with
    | true =>
      refine .inl ⟨by rw [←hr];exact hok,?_,?_⟩
      · rw [hokA];exact⟨by omega,by rw [←hr];exact hok,by rw [halt,←hr];simp⟩
      · intro w hP
        have:=hC w hP
        rw [hok,if_pos rfl]at this
        exact this
    | false =>
      refine .inr ⟨?_,?_⟩
      · rw [hbadA]
        show okR (altL (atomF n) l0.length l0).2=false
        rw [halt]
        cases r with
        | nil=>cases hok
        | cons c r' =>
          have h124:c≠124:=by rintro rfl;simp [okR]at hok
          show okR (contL (atomF n) l0.length (c::r')).2=false
          rw [show contL (atomF n) l0.length (c::r')=([],c::r')from if_neg h124]
          exact hok
      · intro w hP
        have:=hC w hP
        rw [hok,if_neg (by decide)]at this
        exact this
  obtain⟨O,hO⟩:∃O,O=(if okR (altP (atomF n) l0).2=true then some (altP (atomF n) l0)else none):=⟨_,rfl⟩
  rw [←hO]
  have HBAD:Hid (badA→O=none):=Lib.hid (by rw [hbadA,hO];intro h;rw [h];rfl)
  have hcont:∀k,NoNext s k false 124→contL (atomF n) l0.length (s.data.toList.drop k)=([],s.data.toList.drop k):=by
    intro k hk
    have hk' : ∀ h : k < s.size, s[k] ≠ 124 := by rcases hk with h | h; · cases h
                                                  · exact h
    by_cases hlt:k<s.size
    · rw [data_drop s k hlt]
      exact if_neg (hk' hlt)
    · rw [List.drop_eq_nil_of_le (by simp;omega)];rfl
  have HGOOD:Hid (∀k lk,okA k lk→NoNext s k false 124→O=some (joinP 3 lk,s.data.toList.drop k)):=Lib.hid (by
    intro k lk hok hk
    rw [hokA]at hok
    obtain⟨_,h2,h3⟩:=hok
    rw [hcont k hk]at h3
    have h4:altP (atomF n) l0=(joinP 3 lk,s.data.toList.drop k):=by unfold altP;rw [h3];simp
    rw [hO,h4]
    exact if_pos h2)
  have HMORE:Hid (∀k lk,okA k lk→∀h:k<s.size,s[k]=124→i≤k∧altL (atomF n) l0.length l0=(lk++(altL (atomF n) l0.length (s.data.toList.drop (k+1))).1,(altL (atomF n) l0.length (s.data.toList.drop (k+1))).2)):=Lib.hid (by
    intro k lk hok hlt h124
    rw [hokA]at hok
    obtain⟨h1,_,h3⟩:=hok
    have hd:s.data.toList.drop k=124::s.data.toList.drop (k+1):=by rw [data_drop s k hlt,h124]
    rw [h3,hd]
    exact⟨h1,rfl⟩)
  have HSEQ:=Lib.hid hseq
  have HOKA:=Lib.hid hokA
  have HBADA:=Lib.hid hbadA
  have HLEN:=Lib.hid hlen
  have H30:=Lib.hid h30
  have HI:=Lib.hid hi
  clear hseq hS hokA hbadA hlen hm hn h30 hi hP hcont hO
  have HF:Hid (∀w1,PS w1 b s i false→RT b (w.alloc (.cells #[.int .i64 0,.string ⟨#[]⟩,.slice none 0 0] 92)) w1→Calls Tryz.prog 119 #[.pointer (some ⟨b,0,none⟩)] w1 fun e w2=>∃(op:Int) (text:ByteArray) (A:Option Addr) (m c G:Nat),e=.returned (.agg #[.int .i64 op,.string text,.slice A m c])∧RT b (w.alloc (.cells #[.int .i64 0,.string ⟨#[]⟩,.slice none 0 0] 92)) w2∧Hid (Col (4*n+3) b s w okA badA w2.heap.size 1 1 G (w2.alloc (.cells #[.int .i64 op,.string text,.slice A m c] 92)))):=Lib.hid (by
    intro w1 hP1 hT1
    obtain⟨p,k',hk1,hk2,hcase⟩:=HSEQ.out i [] (Nat.le_refl _) HI.out (by rw [←hl0];simp)
    have hw1:w.heap.size+1≤w1.heap.size:=by have:=hT1.size;simp at this;omega
    rcases hcase with ⟨_,hok,hC⟩|⟨hbad,hC⟩
    · refine(hC w1 hP1).mono ?_
      rintro e w2 ⟨A,c,S,rfl,ho,hP2,hT2⟩
      refine⟨_,_,A,_,c,s.size-k'+1,rfl,hT1.trans hT2,Lib.hid <| .inl ⟨k',[p],_,hk2,rfl,by omega,rfl,hP2.al _,owL_one (ho.mono hw1) (by have:=hT2.size;omega) (by decide) (pat_cells _ _ _ _ _),hok⟩⟩
    · refine(hC w1 hP1).mono ?_
      rintro e w2 ⟨op,text,A,m,c,j,rfl,hP2,hT2⟩
      refine⟨op,text,A,m,c,0,rfl,hT1.trans hT2,Lib.hid <| .inr ⟨j,[⟨op,text,.slice A m c⟩],rfl,hP2.al _,⟨by simp [PatR.enc],.inr ⟨w2.heap.size,1,#[.int .i64 op,.string text,.slice A m c],rfl,by have:=hT2.size;omega,heap_alloc_new w2 _,by simp,by unfold maxLen;omega,by simp,by simp [PatR.enc]⟩⟩,rfl,?_,hbad⟩⟩
      intro r hr
      rw [List.mem_singleton.1 hr];exact⟨A,m,c,rfl⟩)
  have hTr:=TurnsAt.refl (fun q=>q=b) (w.alloc (.cells #[.int .i64 0,.string ⟨#[]⟩,.slice none 0 0] 92))
  go_enter Tryz.func95,Tryz.ntmps95
  go_wp2_with (go_at_call 119;((refine(HF.out _ hP0 hTr).mono ?_);rintro e w2 ⟨op,text,A,m,c,G0,rfl,hT2,HC0⟩))
  have hTa:=turns_al hT2 (.cells #[.int .i64 op,.string text,.slice A m c] 92)
  clear hT2
  go_loopg [3] G0 (fun G u wr=>∃(g m c:Nat),u=.slice (some ⟨g,0,none⟩) m c∧Hid (Col (4*n+3) b s w okA badA g m c G wr)∧RT b (w.alloc (.cells #[.int .i64 0,.string ⟨#[]⟩,.slice none 0 0] 92)) wr) 
  case atStart=>exact⟨w2.heap.size,1,1,rfl,HC0,hTa⟩
  case round=>
    clear HC0 hTa
    obtain⟨g,m,c,rfl,HC,hT⟩:=hrel
    have hwr:w.heap.size+1≤wr.heap.size:=by have:=hT.size;simp at this;omega
    have key:Hid (∃k,PS wr b s k false∧(∃h:k<s.size,s[k]=124)∧m+1≤1048576∧
        (∀w3,PS w3 b s (k+1) false→RT b wr w3→Calls Tryz.prog 119 #[.pointer (some ⟨b,0,none⟩)] w3 fun e w4=>∃(op:Int) (text:ByteArray) (A:Option Addr) (m2 c2 G':Nat),e=.returned (.agg #[.int .i64 op,.string text,.slice A m2 c2])∧G'<gk∧RT b w3 w4∧Hid (∃R:List PatR,RowP (w.heap.size+1) w4 (.slice (some ⟨g,0,none⟩) m c) R∧w.heap.size+1≤g∧
          ∀g' c' w5 o,RowP (w.heap.size+1) w5 (.slice (some ⟨g',0,none⟩) (m+1) c') (R++ [⟨op,text,.slice A m2 c2⟩])→(w4.alloc o).grownBy w5 (some g)→(g'=g∨w4.heap.size<g')→Col (4*n+3) b s w okA badA g' (m+1) c' G' w5)))∨
      Hid (∃k bad,PS wr b s k bad∧NoNext s k bad 124∧
        (m=1→∀w3,PS w3 b s k bad→RT b wr w3→∃(op:Int) (text:ByteArray) (A:Option Addr) (m2 c2:Nat),w3.cell? ⟨g,0,none⟩=some (.int .i64 op)∧w3.cell? ⟨g,1,none⟩=some (.string text)∧w3.cell? ⟨g,2,none⟩=some (.slice A m2 c2)∧
          ∀x0 x1 x2,SOut (4*n+4) O b s w (.returned (.agg #[.int .i64 op,.string text,.slice A m2 c2])) (((w3.setCell ⟨w.heap.size,0,none⟩ x0).setCell ⟨w.heap.size,1,none⟩ x1).setCell ⟨w.heap.size,2,none⟩ x2))∧
        (m≠1→∀w3,PS w3 b s k bad→RT b wr w3→∀x0 x1 x2,SOut (4*n+4) O b s w (.returned (.agg #[.int .i64 3,.string ⟨#[]⟩,.slice (some ⟨g,0,none⟩) m c])) (((w3.setCell ⟨w.heap.size,0,none⟩ x0).setCell ⟨w.heap.size,1,none⟩ x1).setCell ⟨w.heap.size,2,none⟩ x2))):=by
      rcases HC.out with ⟨k,lk,S,hk,hn,hnk,hG,hP,hO,hok⟩|⟨j,R,hG,hP,hrow,hRl,hslc,hbad⟩
      · by_cases hgo:∃h:k<s.size,s[k]=124
        · refine .inl (Lib.hid ⟨k,hP,hgo,by have:=H30.out;omega,?_⟩)
          intro w3 hP3 hT3
          obtain⟨hlt,h124⟩:=hgo
          obtain⟨hik,hal⟩:=HMORE.out k lk hok hlt h124
          obtain⟨p,k',hk1,hk2,hcase⟩:=HSEQ.out (k+1) lk (by omega) (by omega) hal
          have hr1:wr.heap.size≤w3.heap.size:=hT3.size
          rcases hcase with ⟨_,hok',hCs⟩|⟨hbad,hCs⟩
          · refine(hCs w3 hP3).mono ?_
            rintro e w4 ⟨A,c2,S2,rfl,ho,hP4,hT4⟩
            exact⟨_,_,A,_,c2,s.size-k'+1,rfl,by omega,hT4,Lib.hid (col_good hO hn hbl (by omega) hr1 (hT3.trans hT4) ho hP4 hk2 (by omega) hok')⟩
          · refine(hCs w3 hP3).mono ?_
            rintro e w4 ⟨op,text,A,m2,c2,j,rfl,hP4,hT4⟩
            obtain⟨R,h1,h2,h3⟩:=col_bad (op:=op) (text:=text) (A:=A) (m:=m2) (cc:=c2) hO hn hbl (hT3.trans hT4) hP4 hbad
            exact⟨op,text,A,m2,c2,0,rfl,by omega,hT4,Lib.hid ⟨R,h1,h2,fun g' c' w5 o a1 a2 _=>h3 g' c' w5 o a1 a2⟩⟩
        · have hno:NoNext s k false 124:=.inr fun h e=>hgo ⟨h,e⟩
          have hOe:=HGOOD.out k lk hok hno
          have hkl:s.size-(s.data.toList.drop k).length=k:=by rw [HLEN.out];omega
          refine .inr (Lib.hid ⟨k,false,hP,hno,?_,?_⟩)
          · intro hm1 w3 hP3 hT3
            have hO3:=hO.apart hT3 (fun q hq e=>by have:=(hO.lt q hq).1;omega)
            obtain⟨R,K,hrow,hRl,hK,_⟩:=OwP.parts hO3
            obtain⟨x,rfl⟩:∃x,lk=[x]:=List.length_eq_one_iff.1 (by omega)
            obtain⟨r,rfl⟩:∃r,R=[r]:=List.length_eq_one_iff.1 hRl
            have hx:OwN patK (4*n+3) (w.heap.size+1) w3 r x (K 0):=hK 0 (by simp) (by simp)
            obtain⟨A,c2,rfl⟩:=OwN.slice hx
            obtain⟨f0,f1,f2⟩:=RowP.first hrow (by simp)
            refine⟨_,_,A,_,c2,f0,f1,f2,fun x0 x1 x2=>?_⟩
            rw [hOe]
            exact s_some (o:=.cells #[.int .i64 0,.string ⟨#[]⟩,.slice none 0 0] 92) (hx.mono (by simp)) hP3 hkl (hT.trans hT3) hbl (by omega)
          · intro hm1 w3 hP3 hT3 x0 x1 x2
            have hO3:=hO.apart hT3 (fun q hq e=>by have:=(hO.lt q hq).1;omega)
            rw [hOe,join_op 3 (by omega)]
            rw [hn]at hO3 ⊢
            exact s_some (p:=opP 3 lk) (o:=.cells #[.int .i64 0,.string ⟨#[]⟩,.slice none 0 0] 92) ((owN_of hO3).mono (by simp)) hP3 hkl (hT.trans hT3) hbl (Nat.le_refl _)
      · refine .inr (Lib.hid ⟨j,true,hP,.inl rfl,?_,?_⟩)
        · intro hm1 w3 hP3 hT3
          have hrow3:=rowR_apart hrow hT3 (fun q hq e=>by have:=(hrow.lt hq).1;omega)
          obtain⟨r,rfl⟩:∃r,R=[r]:=List.length_eq_one_iff.1 (by omega)
          obtain⟨f0,f1,f2⟩:=RowP.first hrow3 (by simp)
          obtain⟨A,m2,c2,hkv⟩:=hslc r (by simp)
          refine⟨_,_,A,m2,c2,f0,f1,by rw [f2];exact congrArg some hkv,fun x0 x1 x2=>?_⟩
          rw [HBAD.out hbad]
          exact s_none (o:=.cells #[.int .i64 0,.string ⟨#[]⟩,.slice none 0 0] 92) hP3 (hT.trans hT3) hbl
        · intro hm1 w3 hP3 hT3 x0 x1 x2
          rw [HBAD.out hbad]
          exact s_none (o:=.cells #[.int .i64 0,.string ⟨#[]⟩,.slice none 0 0] 92) hP3 (hT.trans hT3) hbl
    clear HC HSEQ HF
    rcases key with key|key
    · obtain⟨k,hP,hgo,hm1,hCs⟩:=key.out
      obtain⟨hlt,h124⟩:=hgo
      have HCS:=Lib.hid hCs
      have HP:=Lib.hid hP
      have HE:=Lib.hid h124
      clear hCs hP h124 key
      go_wp2_with (first
        | (go_at_call 120;((refine(next_yes b s hs k 124 _ rfl _ HP.out hlt HE.out).mono ?_);rintro e w3 ⟨rfl,hP3,hT3⟩;have hTn:=hT.trans hT3;have HP3:=Lib.hid hP3;have HT3:=Lib.hid hT3;clear hT hP3 hT3))
        | (go_at_call 119;((refine(HCS.out _ HP3.out HT3.out).mono ?_);rintro e w4 ⟨op2,text2,A2,m2,c2,G2,rfl,hG2,hT4,HR⟩;obtain⟨R,hrow,hgB,hF⟩:=HR.out;have HF:=Lib.hid hF;have HG2:=Lib.hid hG2;have hTx:=hTn.trans hT4;clear hTn hT4 hF HR hG2))
        | (at_builtin;refine wpList_pat_append rfl _ _ rfl (w.heap.size+1) g m c R rfl hrow op2 text2 A2 m2 c2 w4.heap.size rfl rfl hm1 (by have:=hTx.size;simp at this;omega) (m+1) rfl ?_;intro g' c' w5 hrow5 hg5 hg5'))
      go_roundg G2
      case rel=>exact⟨g',m+1,c',by go_num,Lib.hid (HF.out g' c' w5 _ hrow5 hg5 hg5'),turns_grown (turns_al hTx _) hg5 (by simpa using hgB)⟩
      case measure=>exact HG2.out
    · obtain⟨k,bad,hP,hno,h1,h2⟩:=key.out
      have HP:=Lib.hid hP
      have HNO:=Lib.hid hno
      have H1:=Lib.hid h1
      have H2:=Lib.hid h2
      clear hP hno h1 h2 key
      by_cases hm1:m=1
      · have hq:((m:Int)==1)=true:=by rw [hm1];rfl
        have HM:=Lib.hid hm1
        have hpos:(0:Int)<(m:Int):=by omega
        clear hm1
        go_wp2_with (go_at_call 120;((refine(next_no b s hs k bad 124 _ rfl _ HP.out HNO.out).mono ?_);rintro e w3 ⟨rfl,hP3,hT3⟩;obtain⟨op,text,A,m2,c2,f0,f1,f2,hF⟩:=H1.out HM.out w3 hP3 hT3;have HF:=Lib.hid hF;have hTn:=hT.trans hT3;obtain⟨⟨b0,b1,b2⟩,⟨z0,z1,z2⟩,hz⟩:=box3t hTn hbl;clear hF hT hP3 hT3))
        refine bodyPost_ret (v:=.agg #[.int .i64 op,.string text,.slice A m2 c2]) (by simp [results,Tryz.results95,go_sem,b0,b1,b2,hz,hnb,hnb']) rfl ?_
        exact HF.out _ _ _
      · have hq:((m:Int)==1)=false:=by simp;omega
        have HM:=Lib.hid hm1
        clear hm1
        go_wp2_with (go_at_call 120;((refine(next_no b s hs k bad 124 _ rfl _ HP.out HNO.out).mono ?_);rintro e w3 ⟨rfl,hP3,hT3⟩;have hF:=H2.out HM.out w3 hP3 hT3;have HF:=Lib.hid hF;have hTn:=hT.trans hT3;obtain⟨⟨b0,b1,b2⟩,⟨z0,z1,z2⟩,hz⟩:=box3t hTn hbl;clear hF hT hP3 hT3))
        refine bodyPost_ret (v:=.agg #[.int .i64 3,.string ⟨#[]⟩,.slice (some ⟨g,0,none⟩) m c]) (by simp [results,Tryz.results95,go_sem,b0,b1,b2,hz,hnb,hnb']) rfl ?_
        exact HF.out _ _ _
end
section
open Go.RowKit NumP
end
section
open Go.RowKit NumP
end
section
open Go.RowKit

def Few:Nat→List Pat→Prop
 | 0,l=>l=[]
 | d+1,l=>l.length≤31∧∀t∈l,Few d t.kids
theorem Few.deeper:∀ {d:Nat} {l:List Pat},Few d l→Few (d+1) l
 | 0, l, h => by
  have h':l=[]:=h
  subst h'
  exact⟨by simp,fun t ht=>absurd ht (by simp)⟩
 | d+1,l,h=>⟨h.1,fun t ht=>Few.deeper (h.2 t ht)⟩
theorem Few.to {d e:Nat}{l:List Pat}(h:Few d l)(he:d≤e):Few e l:=by
 obtain⟨j,rfl⟩:=Nat.le.dest he
 induction j with
 | zero=>exact h
 | succ j ih=>exact(ih (Nat.le_add_right _ _)).deeper
theorem few_nil (d:Nat):Few d []:=(show Few 0 []from rfl).to (Nat.zero_le d)
theorem few_cons {d:Nat}{l:List Pat}(h1:l.length≤31)(h2:∀t∈l,Few d t.kids):Few (d+1) l:=⟨h1,h2⟩
theorem few_one {d:Nat}{p:Pat}(h:Few d p.kids):Few (d+1) [p]:=⟨by simp,fun t ht=>by rw [List.mem_singleton.1 ht];exact h⟩
theorem few_rep {d:Nat}{p:Pat}(h:Few d p.kids)(l:List UInt8):Few (d+2) (repT p l).1.kids:=by
 unfold repT
 split
 ·exact h.to (by omega)
 ·split
  ·exact(few_one h).to (by omega)
  ·split
   ·exact(few_one h).to (by omega)
   ·split
    ·refine few_cons (show 2≤31 by decide) fun t ht=>?_
     rcases List.mem_cons.1 ht with rfl|ht
     ·exact h.to (by omega)
     ·rw [List.mem_singleton.1 ht];exact few_one h
    ·exact h.to (by omega)
theorem few_join {d:Nat}{l:List Pat}(op:Int)(h1:l.length≤31)(h2:∀t∈l,Few d t.kids):Few (d+1) (joinP op l).kids:=by
 unfold joinP
 split
 ·exact(h2 _ (by simp)).to (by omega)
 ·exact few_cons h1 h2
def FewA (d:Nat)(A:List UInt8→Option (Pat×List UInt8)):Prop:=∀l p r,A l=some (p,r)→l.length≤30→Few d p.kids
theorem few_repL {d:Nat}{A:List UInt8→Option (Pat×List UInt8)}(h:FewA d A):FewA (d+2) (repL A):=by
 intro l p r e hl
 unfold repL at e
 cases hA:A l with
 | none=>rw [hA]at e;cases e
 | some x =>
  obtain⟨q,t⟩:=x
  rw [hA]at e
  have e2:repT q t=(p,r):=Option.some.inj e
  have:=few_rep (h l q t hA hl) t
  rw [e2]at this
  exact this
theorem few_seqL {d:Nat}{A:List UInt8→Option (Pat×List UInt8)}(h:FewA d A)(hs:Sh A):∀(m:Nat) (l:List UInt8),l.length≤30→(seqL A m l).1.length≤l.length∧∀t∈(seqL A m l).1,Few (d+2) t.kids
 | 0,l,hl=>⟨by simp [seqL],fun t ht=>absurd ht (by simp [seqL])⟩
 | m + 1, l, hl => by
  rw [seqL]
  split
  ·exact⟨by simp,fun t ht=>absurd ht (by simp)⟩
  ·rename_i p r e
   have h1:=(repL_sh hs l p r e).2
   have ih:=few_seqL h hs m r (by omega)
   refine⟨by simp only [List.length_cons];omega,fun t ht=>?_⟩
   rcases List.mem_cons.1 ht with rfl|ht
   ·exact few_repL h l _ r e hl
   ·exact ih.2 t ht
theorem few_seqP {d:Nat}{A:List UInt8→Option (Pat×List UInt8)}(h:FewA d A)(hs:Sh A)(l:List UInt8)(hl:l.length≤30):Few (d+3) (seqP A l).1.kids:=
 few_join 2 (by have:=(few_seqL h hs l.length l hl).1;omega) (few_seqL h hs l.length l hl).2
theorem few_altL {d:Nat}{A:List UInt8→Option (Pat×List UInt8)}(h:FewA d A)(hs:Sh A):∀(m:Nat) (l:List UInt8),l.length≤30→(altL A m l).1.length≤l.length+1∧∀t∈(altL A m l).1,Few (d+3) t.kids
 | 0,l,hl=>⟨by simp [altL],fun t ht=>by rw [List.mem_singleton.1 (show t∈[(seqP A l).1]from ht)];exact few_seqP h hs l hl⟩
 | m + 1, l, hl => by
  have hsf:=(seqP_suf hs l).len
  have one:∀t∈[(seqP A l).1],Few (d+3) t.kids:=fun t ht=>by rw [List.mem_singleton.1 ht];exact few_seqP h hs l hl
  rw [altL]
  split
  ·exact⟨by simp,one⟩
  ·rename_i c r e
   rw [e,List.length_cons]at hsf
   split
   ·have ih:=few_altL h hs m r (by omega)
    refine⟨by simp only [List.length_cons];omega,fun t ht=>?_⟩
    rcases List.mem_cons.1 ht with rfl|ht
    ·exact few_seqP h hs l hl
    ·exact ih.2 t ht
   ·exact⟨by simp,one⟩
theorem few_altP {d:Nat}{A:List UInt8→Option (Pat×List UInt8)}(h:FewA d A)(hs:Sh A)(l:List UInt8)(hl:l.length≤30):Few (d+4) (altP A l).1.kids:=
 few_join 3 (by have:=(few_altL h hs l.length l hl).1;omega) (few_altL h hs l.length l hl).2
theorem classL_kids {l:List UInt8}{p:Pat}{r:List UInt8}(h:classL l=some (p,r)):p.kids=[]:=by
 unfold classL at h
 split at h
 ·cases h
 ·split at h
  ·cases h;rfl
  ·cases h
theorem few_atomF:∀n,FewA (4*n) (atomF n)
 | 0=>fun l p r e _=>by cases e
 | n + 1 => fun l p r e hl => by
  have ih:=few_altP (few_atomF n) (atomF_sh n)
  have e':atomL (altP (atomF n)) l=some (p,r):=e
  unfold atomL at e'
  split at e'
  ·cases e'
  ·rename_i c t
   rw [List.length_cons]at hl
   split at e'
   ·split at e'
    ·cases e'
    ·split at e'
     ·cases e';exact ih t (by omega)
     ·cases e'
   ·split at e'
    ·rw [classL_kids e'];exact few_nil _
    ·split at e'
     ·cases e';exact few_nil _
     ·split at e'
      ·cases e';exact few_nil _
      ·cases e'
def cntL:Nat→List Pat→Nat
 | 0,_=>0
 | d+1,l=>(l.map fun t=>1+cntL d t.kids).sum
def cntP (d:Nat)(p:Pat):Nat:=1+cntL d p.kids
theorem cntL_nil (d:Nat):cntL d []=0:=by cases d<;>rfl
theorem cntL_le (d:Nat)(l:List Pat):cntL d l≤(l.map (cntP d)).sum:=by
 induction d generalizing l with
 | zero=>exact Nat.zero_le _
 | succ d ih =>
  have h:∀l:List Pat,(l.map fun t=>1+cntL d t.kids).sum≤(l.map fun t=>1+cntL (d+1) t.kids).sum:=fun l=>by
   induction l with
   | nil=>exact Nat.le_refl _
   | cons t r ihr =>
    simp only [List.map_cons,List.sum_cons]
    have h2:cntL d t.kids≤cntL (d+1) t.kids:=ih t.kids
    omega
  exact h l
def nOne (l:List Pat):Nat:=if l.length=1 then 0 else 1
theorem cnt_join (d:Nat)(op:Int)(l:List Pat):cntP d (joinP op l)≤(l.map (cntP d)).sum+nOne l:=by
 unfold joinP
 split
 ·simp [nOne]
 ·rename_i h
  have hl:l.length≠1:=fun e=>by
   obtain⟨p,rfl⟩:=List.length_eq_one_iff.1 e
   exact h p rfl
  unfold nOne
  rw [if_neg hl]
  show 1+cntL d l≤_
  have:=cntL_le d l
  omega
theorem cnt_pos (d:Nat)(p:Pat):1≤cntP d p:=Nat.le_add_right _ _
theorem cnt_one (d:Nat)(op:Int)(p:Pat):cntP d (opP op [p])≤1+cntP d p:=by
 have:=cntL_le d [p]
 show 1+cntL d [p]≤_
 simp at this
 omega
theorem cnt_two (d:Nat)(op:Int)(p q:Pat):cntP d (opP op [p,q])≤1+cntP d p+cntP d q:=by
 have:=cntL_le d [p,q]
 show 1+cntL d [p,q]≤_
 simp at this
 omega
end
section
open Go.RowKit

def More (d b:Nat)(s:ByteArray)(w0:World)(ok:Nat→List Pat→Prop)(bad:Prop)(g m c:Nat)(w4:World)(op:Int)(text:ByteArray)(A:Option Addr)(m2 c2 G:Nat):Prop:=
 ∃ R : List PatR, RowP (w0.heap.size + 1) w4 (.slice (some ⟨g, 0, none⟩) m c) R ∧ w0.heap.size + 1 ≤ g ∧
  ∀g' c' w5 o,RowP (w0.heap.size+1) w5 (.slice (some ⟨g',0,none⟩) (m+1) c') (R++ [⟨op,text,.slice A m2 c2⟩])→(w4.alloc o).grownBy w5 (some g)→(g'=g∨w4.heap.size<g')→Col d b s w0 ok bad g' (m+1) c' G w5
def STwinC:Prop:=∀(d:Nat) (r:PatR) (t:Pat) (w:World),RdN patK d w r t→Few d t.kids→Calls Tryz.prog 138 #[.agg #[.int .i64 r.op,.string r.text,r.kv]] w fun e w'=>∃(A:Option Addr) (c:Nat) (S:Nat→Prop),e=.returned (.agg #[.int .i64 t.x.op,.string t.x.text,.slice A t.kids.length c])∧OwN patK d w.heap.size w' ⟨t.x.op,t.x.text,.slice A t.kids.length c⟩ t S∧Below w.heap.size w w'
theorem atomF_stop (n:Nat)(c:UInt8)(l:List UInt8)(h:c=124∨c=41):atomF n (c::l)=none:=by
 cases n with
 | zero=>rfl
 | succ n=>rcases h with rfl | rfl<;>rfl
theorem neq_byte {c d:UInt8}(h:c≠d):((c.toNat:Int) != (d.toNat:Int))=true:=by rw [bne,byte_ne h];rfl
theorem OwN.setOff {d B b j:Nat}{w:World}{r:PatR}{t:Pat}{S:Nat→Prop}{u:Value}(h:OwN patK d B w r t S)(hn:¬S b):OwN patK d B (w.setCell ⟨b,j,none⟩ u) r t S:=h.frame fun q hq=>Below.heap_setCell w ⟨b,j,none⟩ u q (fun e=>hn (by simp at e;rw [←e];exact hq))
theorem sign_own {d B b k k' g m c:Nat}{s:ByteArray}{wr w1 w2:World}{p:Pat}{A:Option Addr}{cc:Nat}{S:Nat→Prop}{o1:Obj}(op:Int)(ho:OwN patK d B w1 ⟨p.x.op,p.x.text,.slice A p.kids.length cc⟩ p S)(hB:B≤w1.heap.size)(hb:b<B)(hrB:wr.heap.size≤w1.heap.size)(hT1:RT b wr w1)(hT2:RT b (w1.alloc o1) w2)(hP:PS w2 b s k false)(x0 x1 x2:Value):
  ∃ S', OwN patK (d + 1) B ((((w2.setCell ⟨w1.heap.size, 0, none⟩ x0).setCell ⟨w1.heap.size, 1, none⟩ x1).setCell ⟨w1.heap.size, 2, none⟩ x2).alloc (.cells #[.int .i64 p.x.op, .string p.x.text, .slice A p.kids.length cc] 92)) ⟨op, ⟨#[]⟩, .slice (some ⟨w2.heap.size, 0, none⟩) 1 1⟩ (opP op [p]) S' ∧
   PS ((((w2.setCell ⟨w1.heap.size,0,none⟩ x0).setCell ⟨w1.heap.size,1,none⟩ x1).setCell ⟨w1.heap.size,2,none⟩ x2).alloc (.cells #[.int .i64 p.x.op,.string p.x.text,.slice A p.kids.length cc] 92)) b s k false∧RT b wr ((((w2.setCell ⟨w1.heap.size,0,none⟩ x0).setCell ⟨w1.heap.size,1,none⟩ x1).setCell ⟨w1.heap.size,2,none⟩ x2).alloc (.cells #[.int .i64 p.x.op,.string p.x.text,.slice A p.kids.length cc] 92)):=by
 have hz2:w1.heap.size+1≤w2.heap.size:=by have:=hT2.size;simpa using this
 have hn:¬S w1.heap.size:=fun h=>absurd (ho.lt _ h).2 (by omega)
 have ho2:OwN patK d B w2 ⟨p.x.op,p.x.text,.slice A p.kids.length cc⟩ p S:=(ho.al o1).apart hT2 (fun q hq e=>by have:=(ho.lt q hq).1;omega)
 have ho3:=((ho2.setOff (j:=0) (u:=x0) hn).setOff (j:=1) (u:=x1) hn).setOff (j:=2) (u:=x2) hn
 have h1:=owL_one ho3 (by simp;omega) (by decide) (pat_cells _ _ _ _ _)
 have h2:OwL patK (d+1) B ((((w2.setCell ⟨w1.heap.size,0,none⟩ x0).setCell ⟨w1.heap.size,1,none⟩ x1).setCell ⟨w1.heap.size,2,none⟩ x2).alloc (.cells #[.int .i64 p.x.op,.string p.x.text,.slice A p.kids.length cc] 92)) (.slice (some ⟨w2.heap.size,0,none⟩) 1 1) [p] (fun b=>b=w2.heap.size∨S b):=by simpa [patK,PatR.enc]using h1
 exact⟨_,owN_of (op:=op) (text:=⟨#[]⟩) h2,(((hP.setNew (by omega)).setNew (by omega)).setNew (by omega)).al _,turns_al (turns_new (turns_new (turns_new (hT1.trans (turns_of_al hT2)) hrB) hrB) hrB) _⟩
end
end Go.Proofs.YtecladbckadijaaGreatDoor
