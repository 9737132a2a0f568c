/- MERGED for a claim. -/
import Derived.Test.YtecladbckadijaaGreatDoorDrawTz
set_option linter.unusedVariables false
set_option linter.unusedSimpArgs false
set_option maxRecDepth 100000
set_option maxHeartbeats 16000000
namespace Go.Proofs.YtecladbckadijaaGreatDoor
open Go.Lib (hid)
section
open Go.RowKit NumP

theorem isTy_rg {t:Ty}(h:isTyB t=true):areB t.rg=true∨t.rg=[]:=by
 obtain⟨k,rg,nm,pt,ph⟩:=t
 by_cases k1:k=1
 ·subst k1;rw [isTy_1]at h;simp only [Bool.and_eq_true]at h;exact .inl h.1.1.1
 by_cases k2:k=2
 ·subst k2;rw [isTy_2]at h;simp only [Bool.and_eq_true]at h;exact .inl h.1.1.1.1
 have h0:decide (rg.length=0)=true→rg=[]:=fun h=>List.length_eq_zero_iff.1 (of_decide_eq_true h)
 by_cases k3:k=3
 ·subst k3;rw [isTy_3]at h;simp only [Bool.and_eq_true]at h;exact .inr (h0 h.1.1.1)
 by_cases k4:k=4
 ·subst k4
  cases hn:namesB nm with
  | false=>rw [isTy_bad (t:=⟨4,rg,nm,pt,ph⟩) hn]at h;cases h
  | true=>rw [isTy_4 _ _ _ _ hn]at h;simp only [Bool.and_eq_true]at h;exact .inr (h0 h.1.1.2)
 by_cases k5:k=5
 ·subst k5;rw [isTy_5]at h;simp only [Bool.and_eq_true]at h;exact .inr (h0 h.1.1.2)
 by_cases k6:k=6
 ·subst k6;rw [isTy_6]at h;simp only [Bool.and_eq_true]at h;exact .inr (h0 h.1.1.1)
 rw [isTy_other rg nm pt ph ⟨k1,k2,k3,k4,k5,k6⟩]at h;cases h
theorem isTy_wf {t:Ty}(h:isTyB t=true):∀x∈t.rg,RgWf x:=by
 rcases isTy_rg h with h|h
 ·intro x hx
  obtain⟨h1,h2,h3⟩:=(are_nrm h).2 x hx
  unfold RgWf;omega
 ·rw [h];intro x hx;cases hx
theorem isTy_few {t:Ty}(h:isTyB t=true):t.rg.length≤6:=by
 rcases isTy_rg h with h|h
 ·exact are_len h
 ·rw [h];exact Nat.zero_le _
theorem dr5_sz {t:Ty}(h:DrSz5 t):TySz t:=⟨fun s hs=>Nat.le_trans (h.2.2.1 s hs) (by omega),Nat.le_trans h.2.2.2.1 (by omega),Nat.le_trans h.2.2.2.2 (by omega)⟩
theorem dr5_fm {t:Ty}(h:DrSz5 t)(hq:isTyB t=true):TyFm t:=⟨Nat.le_trans h.1 (by omega),isTy_wf hq,Nat.le_trans h.2.1 (by omega),(dr5_sz h).1,(dr5_sz h).2.1,(dr5_sz h).2.2⟩
theorem dr5_size {t:Ty}(h:DrSz5 t)(hq:isTyB t=true):(joinC 32 (tyP4 t)).size≤20000:=by
 have hm:∀x∈tyP4 t,x.size≤1202:=by
  intro x hx
  unfold tyP4 tyP3 tyP2 tyP1 at hx
  simp only [List.mem_append]at hx
  rcases hx with (((hx|hx)|hx)|hx)|hx
  ·rw [List.mem_singleton.1 hx];have:=tyW_size t.k;omega
  ·unfold rgL at hx
   split at hx
   ·simp at hx
   ·rw [List.mem_singleton.1 hx,formatS_size]
    have:=join_lenC (xs:=(rngsT t.rg).map (·.data.toList)) (m:=44) (c:=124) (fun x hx=>by
     obtain⟨y,hy,rfl⟩:=List.mem_map.1 hx
     obtain⟨z,hz,rfl⟩:=List.mem_map.1 hy
     have:=rangeS_size (isTy_wf hq z hz)
     rw [Array.length_toList]
     exact this)
    rw [List.length_map,show(rngsT t.rg).length=t.rg.length by simp [rngsT]]at this
    have:=isTy_few hq
    omega
  ·have:=h.2.2.1 x hx;omega
  ·unfold qtL at hx
   split at hx
   ·simp at hx
   ·rw [List.mem_singleton.1 hx];have:=quoteS_sizeT t.pt;have:=h.2.2.2.1;omega
  ·unfold qtL at hx
   split at hx
   ·simp at hx
   ·rw [List.mem_singleton.1 hx];have:=quoteS_sizeT t.ph;have:=h.2.2.2.2;omega
 have hl:(tyP4 t).length≤9:=by
  have:=rgL_len t.rg;have:=qtL_len t.pt;have:=qtL_len t.ph;have:=h.2.1
  unfold tyP4 tyP3 tyP2 tyP1
  simp only [List.length_append,List.length_cons,List.length_nil];omega
 have:=join_lenC (xs:=(tyP4 t).map (·.data.toList)) (m:=1202) (c:=32) (fun x hx=>by
  obtain⟨y,hy,rfl⟩:=List.mem_map.1 hx
  rw [Array.length_toList]
  exact hm y hy)
 rw [List.length_map]at this
 have e:(joinC 32 (tyP4 t)).size=(Lib.join ((tyP4 t).map (·.data.toList)) [32]).length:=by unfold joinC;rfl
 rw [e]
 have h2:(tyP4 t).length*(1202+1)≤9*(1202+1):=Nat.mul_le_mul_right _ hl
 omega
theorem iFmt_no (v:TyV)(t:Ty)(w:World)(h:HasTy w v t)(hc:CapN v.vn)(hs:TySz t)(hq:isTyB t=false):
  Calls Tryz.prog 10 #[v.val] w fun e w'=>e=.returned (.string ⟨#[]⟩)∧Below w.heap.size w w':=by
 have HI:=hid (fun W (hb:Below w.heap.size w W)=>iIsTy_any v t W (h.below hb) hc hs)
 rw [hq]at HI
 obtain⟨A,c,h1,-⟩:=id h.rg
 obtain⟨A',c',h2,-⟩:=id h.nm
 obtain⟨k,vr,vn,pt,ph⟩:=v
 obtain rfl:vr=_:=h1
 obtain rfl:vn=_:=h2
 generalize t.rg.length=n at*
 generalize t.nm.length=m at*
 have HB0:=hid (below_al (Below.refl w.heap.size w) (.cells #[.int .i64 k,.slice A n c,.slice A' m c',.string pt,.string ph] 27))
 clear h hc hs hq
 go_enter Tryz.func10,Tryz.ntmps10
 go_wp2_with fail
 refine(HI.out _ HB0.out).mono ?_
 rintro e w1 ⟨rfl,hb1⟩
 have HB1:=hid (below_step HB0.out hb1)
 clear hb1
 go_wp2
 go_ret
 exact⟨rfl,HB1.out⟩
theorem iFmtD_any (v:TyV)(t:Ty)(w:World)(h:HasTy w v t)(hc:CapN v.vn)(hk:NilTy v)(hz:isTyB t=true∨TySz t)(hf:isTyB t=true→TyFm t)
  (hT:∀i s,i<7→typeWs[i]? =some s→w.cell? ⟨0,i,none⟩=some (.string ⟨s.toArray⟩)):
  Calls Tryz.prog 10 #[v.val] w fun e w'=>e=.returned (.string (fmtTy t))∧Below w.heap.size w w':=by
 by_cases hq:isTyB t=true
 ·exact iFmtTy_any v t w h hc hk (hf hq) hT
 ·have hq':isTyB t=false:=by revert hq;cases isTyB t<;>simp
  rw [show fmtTy t=⟨#[]⟩by unfold fmtTy;rw [if_neg hq]]
  exact iFmt_no v t w h hc (hz.resolve_left hq) hq'
theorem parse_type (t:Ty)(hd:DrSz5 t)(w:World)
  (hT:∀i s,i<7→typeWs[i]? =some s→w.cell? ⟨0,i,none⟩=some (.string ⟨s.toArray⟩)):
  Calls Tryz.prog 9 #[.string (fmtTy t)] w fun e w'=>PtV w.heap.size (if isTyB t=true then some t else none) e w'∧Below w.heap.size w w':=by
 by_cases hq:isTyB t=true
 ·obtain⟨T,res,hL,hR,hT2⟩:=back_type hq (joinC 32 (tyP4 t)).size
  have hsz:=dr5_size hd hq
  have hbd:=hL.bd
  have hl:(joinC 32 (tyP4 t)).data.toList.length=(joinC 32 (tyP4 t)).size:=by simp
  have:=iParTy_any (joinC 32 (tyP4 t)) (by omega) T none hL (by show T.length≤_;omega) (lex_texts hL (by omega)) res hR w hT
  rw [show parTy none (lexT T none) res=some t by
   show(if (tyT T res).2=T.length∧isTyB (tyT T res).1=true then some (tyT T res).1 else none)=_
   rw [hT2];exact if_pos ⟨rfl,hq⟩]at this
  rw [if_pos hq,show fmtTy t=joinC 32 (tyP4 t)from if_pos hq]
  exact this
 ·rw [if_neg hq,show fmtTy t=⟨#[]⟩from if_neg hq]
  have hL:Lx (⟨#[]⟩:ByteArray).size (⟨#[]⟩:ByteArray).data.toList [] none:=.fin rfl
  obtain⟨res,hR⟩:=Run.exists ((lexT [] none).drop 1) 0 0 [] (by show(0:Nat)-0≤0;omega)
  have:=iParTy_any ⟨#[]⟩ (by decide) [] none hL (by decide) (fun x hx=>by cases hx) res hR w hT
  rw [show parTy none (lexT [] none) res=none by
   show(if (tyT [] res).2=0∧isTyB (tyT [] res).1=true then some (tyT [] res).1 else none)=_
   rw [show(tyT [] res).1=⟨0,[],[],⟨#[]⟩,⟨#[]⟩⟩from rfl,isTy_zero];exact if_neg (fun h=>by cases h.2)]at this
  exact this
theorem narr_sz {t:Ty}{r:List Rg}(h:TySz t):TySz (narrT t r).1:=by
 cases ha:mayB t with
 | false=>rw [narr_a ha];exact h
 | true =>
  cases hb:areB r with
  | false=>rw [narr_b hb];exact h
  | true =>
   cases hn:nothB t r with
   | true=>rw [narr_c hn];exact h
   | false =>
    cases hf:isTyB (narT t r)with
    | false=>rw [narr_d hf];exact h
    | true=>rw [narr_e ha hb hn hf];exact h
theorem canonT_size {t:Ty}{s c:ByteArray}(h:canonT t s=some c)(hs:s.size≤400):c.size≤1048576:=by
 unfold canonT at h
 split at h
 ·unfold canO at h
  split at h
  ·obtain⟨m,rfl,hb,_⟩:=intO_again h
   have:=fmtS_size (n:=m) (by omega) (by omega)
   omega
  repeat' split at h
  all_goals first
   |(cases h;omega)
   |(rcases boolIs_val (by have h1:=boolO_is s;rw [h]at h1;exact h1)with rfl | rfl<;>decide)
   | cases h
 ·cases h
end
section
open Go.RowKit NumP

theorem mem0 (s:ByteArray)(l:List ByteArray):false=memB s (l.take 0):=by
 cases h:memB s (l.take 0)with
 | false=>rfl
 | true=>exact absurd ((mem_iff _ _).1 h) (by simp)
theorem mem_snoc (s:ByteArray)(l:List ByteArray)(k:Nat)(h:k<l.length):memB s (l.take (k+1))=(memB s (l.take k) || @decide (s=l[k]) (Classical.propDecidable _)):=by
 rw [Bool.eq_iff_iff,mem_iff,Bool.or_eq_true,mem_iff,@decide_eq_true_iff _ (Classical.propDecidable _),List.take_succ_eq_append_getElem h,List.mem_append,List.mem_singleton]
theorem sCan_1 (v:TyV)(t:Ty)(s:ByteArray)(w:World)(h:HasTy w v t)(hs:TySz t)(hS:s.size≤1048576)(hk:t.k=1):
  Calls Tryz.prog 7 #[v.val,.string s] w fun e w'=>e=.returned (tupS (canonT t s))∧Below w.heap.size w w':=by
 have HTY0:=hid (fun W (hb:Below w.heap.size w W)=>sIsTy_any v t W (h.below hb) hs)
 obtain⟨q,hq⟩:∃q,q=isTyB t:=⟨_,rfl⟩
 have HQ:=hid hq
 rw [←hq]at HTY0
 obtain⟨k,rg,nm,pt,ph⟩:=t
 obtain⟨k',vr,vn,pt',ph'⟩:=v
 obtain⟨rfl,hr,hn,rfl,rfl⟩:=h
 obtain⟨s1,s2,s3⟩:=hs
 dsimp only at*
 obtain⟨A,c,rfl,hn1,hc1⟩:=id hr
 obtain⟨A',c',rfl,hn2,hc2⟩:=id hn
 obtain⟨n,hnn⟩:∃n,n=rg.length:=⟨_,rfl⟩
 obtain⟨m,hmm⟩:∃m,m=nm.length:=⟨_,rfl⟩
 rw [←hnn]at hr hn1 HTY0 ⊢
 rw [←hmm]at hn hn2 HTY0 ⊢
 obtain⟨W0,hW0⟩:∃W0,W0=w.alloc (.cells #[.int .i64 k',.slice A n c,.slice A' m c',.string pt',.string ph'] 27):=⟨_,rfl⟩
 have hb0:Below w.heap.size w W0:=by rw [hW0];exact below_al (Below.refl _ _) _
 have hz0:w.heap.size<W0.heap.size:=by rw [hW0];simp
 have HBX:Hid (∀W,Below W0.heap.size W0 W→W.heap[w.heap.size]? =some (.cells #[.int .i64 k',.slice A n c,.slice A' m c',.string pt',.string ph'] 27 (0,0))):=hid fun W hb=>(hb.block _ hz0).trans (by rw [hW0];exact heap_alloc_new' _ _ rfl)
 have HLOW:Hid (∀W,Below W0.heap.size W0 W→Below w.heap.size w W):=hid fun W hb=>below_step hb0 hb
 have HTY:Hid (∀W,Below W0.heap.size W0 W→Calls Tryz.prog 30 #[.agg #[.int .i64 k',.slice A n c,.slice A' m c',.string pt',.string ph']] W fun e w'=>e=.returned (.bool q)∧Below W.heap.size W w'):=hid fun W hb=>HTY0.out W (below_step hb0 hb)
 have HIN:Hid (∀x W,Below W0.heap.size W0 W→Calls Tryz.prog 27 #[.slice A n c,.int .i64 x] W fun e w'=>e=.returned (.bool (inB rg x))∧Below W.heap.size W w'):=hid fun x W hb=>sInR_any _ rg x W (HasR.below hr (below_step hb0 hb))
 have HRD:=hid (fun w=>sRead_any s (by unfold maxLen;omega) w)
 have HTX:=hid (fun w=>sIsText_any s (by unfold maxLen;omega) w)
 have HMT:=hid (fun w=>sMText_any pt' s (by unfold maxLen;omega) hS w)
 have HCE:Hid (∀i (hi:i<nm.length),∃a,A'=some a∧∀W,Below W0.heap.size W0 W→W.cell? (a.add i)=some (.string nm[i])):=hid fun i hi=>by
  obtain⟨a,ha,hab,hcell⟩:=hc2 i hi
  exact⟨a,ha,fun W hb=>by rw [(below_step hb0 hb).cell (by rw [add_blk];exact hab)];exact hcell⟩
 have HM1:Hid (m=nm.length):=hid hmm
 have HBW:Hid (Below W0.heap.size W0 W0):=hid (Below.refl _ _)
 obtain⟨Z,hZ⟩:∃Z,Z=tupS (canonT ⟨k',rg,nm,pt',ph'⟩ s):=⟨_,rfl⟩
 have HZ:=hid hZ
 rw [←hZ]
 obtain⟨⟨x0,x1,x2,x3,x4⟩,-⟩:=five (HBX.out _ HBW.out)
 subst hW0
 clear hZ hr hn hc1 hc2 hnn hmm s1 s2 s3 HTY0 hq x0 x1 x2 x3 x4
 subst hk
 have HC:Hid (canO ⟨1,rg,nm,pt',ph'⟩ s=intO rg s):=hid rfl
 cases ho:readL s.data.toList with
 | none =>
  have HI:Hid (intO rg s=none):=hid (by unfold intO;rw [ho])
  rw [ho]at HRD
  replace HRD:Hid (∀w,Calls Tryz.prog 25 #[.string s] w fun e w'=>e=.returned (.tuple #[.int .i64 0,.bool false])∧w=w'):=hid HRD.out
  have HFM:=hid (fun w=>sFmt_any 0 (by omega) (by omega) w)
  clear ho
  have HL:Hid (Z=.tuple #[.string ⟨#[]⟩,.bool false]):=hid (by rw [HZ.out];exact tup_none (canon_none (HC.out.trans HI.out)))
  go_enter Tryz.func7,Tryz.ntmps7
  go_wp2_with (first
   |(go_at_call 25;refine(HRD.out _).mono ?_;rintro e w' ⟨rfl,rfl⟩)
   |(go_at_call 26;refine(HFM.out _).mono ?_;rintro e w1 ⟨rfl,hb1⟩;have HB1:=hid hb1;obtain⟨⟨y0,y1,y2,y3,y4⟩,-⟩:=five (HBX.out _ HB1.out))
   |(go_at_call 27;refine(HIN.out _ _ HB1.out).mono ?_;rintro e w2 ⟨rfl,hb2⟩;have HB2:=hid (below_step HB1.out hb2);obtain⟨⟨z0,z1,z2,z3,z4⟩,-⟩:=five (HBX.out _ HB2.out)))
  go_ret2
  exact⟨ret_val HL.out.symm,HLOW.out _ HB1.out⟩
 | some x =>
  have hbd:=readL_bd ho
  have HFM:=hid (fun w=>sFmt_any x (by omega) (by omega) w)
  have HI:Hid (intO rg s=if inB rg x=true then some (fmtS x)else none):=hid (by unfold intO;rw [ho])
  rw [ho]at HRD
  replace HRD:Hid (∀w,Calls Tryz.prog 25 #[.string s] w fun e w'=>e=.returned (.tuple #[.int .i64 x,.bool true])∧w=w'):=hid HRD.out
  obtain⟨b,hb⟩:∃b,b=inB rg x:=⟨_,rfl⟩
  have HB:=hid hb
  replace HIN:=hid (HIN.out x)
  rw [←hb]at HIN
  clear ho hb
  cases b
  ·
   have HL:Hid (Z=.tuple #[.string ⟨#[]⟩,.bool false]):=hid (by rw [HZ.out];exact tup_none (canon_none (HC.out.trans (by rw [HI.out,←HB.out];rfl))))
   go_enter Tryz.func7,Tryz.ntmps7
   go_wp2_with (first
    |(go_at_call 25;refine(HRD.out _).mono ?_;rintro e w' ⟨rfl,rfl⟩)
    |(go_at_call 26;refine(HFM.out _).mono ?_;rintro e w1 ⟨rfl,hb1⟩;have HB1:=hid hb1;obtain⟨⟨y0,y1,y2,y3,y4⟩,-⟩:=five (HBX.out _ HB1.out))
    |(go_at_call 27;refine(HIN.out _ HB1.out).mono ?_;rintro e w2 ⟨rfl,hb2⟩;have HB2:=hid (below_step HB1.out hb2);obtain⟨⟨z0,z1,z2,z3,z4⟩,-⟩:=five (HBX.out _ HB2.out)))
   go_ret2
   exact⟨ret_val HL.out.symm,HLOW.out _ HB2.out⟩
  ·
   cases q
   ·
    have HL:Hid (Z=.tuple #[.string ⟨#[]⟩,.bool false]):=hid (by rw [HZ.out];exact tup_none (canon_no _ HQ.out.symm))
    go_enter Tryz.func7,Tryz.ntmps7
    go_wp2_with (first
     |(go_at_call 25;refine(HRD.out _).mono ?_;rintro e w' ⟨rfl,rfl⟩)
     |(go_at_call 26;refine(HFM.out _).mono ?_;rintro e w1 ⟨rfl,hb1⟩;have HB1:=hid hb1;obtain⟨⟨y0,y1,y2,y3,y4⟩,-⟩:=five (HBX.out _ HB1.out))
     |(go_at_call 27;refine(HIN.out _ HB1.out).mono ?_;rintro e w2 ⟨rfl,hb2⟩;have HB2:=hid (below_step HB1.out hb2);obtain⟨⟨z0,z1,z2,z3,z4⟩,-⟩:=five (HBX.out _ HB2.out))
     |(go_at_call 30;refine(HTY.out _ HB2.out).mono ?_;rintro e w4 ⟨rfl,hb4⟩;have HB4:=hid (below_step HB2.out hb4)))
    go_ret2
    exact⟨ret_val HL.out.symm,HLOW.out _ HB4.out⟩
   ·
    have HL:Hid (Z=.tuple #[.string (fmtS x),.bool true]):=hid (by rw [HZ.out];exact tup_some ((canon_yes _ HQ.out.symm).trans (HC.out.trans (by rw [HI.out,←HB.out];rfl))))
    go_enter Tryz.func7,Tryz.ntmps7
    go_wp2_with (first
     |(go_at_call 25;refine(HRD.out _).mono ?_;rintro e w' ⟨rfl,rfl⟩)
     |(go_at_call 26;refine(HFM.out _).mono ?_;rintro e w1 ⟨rfl,hb1⟩;have HB1:=hid hb1;obtain⟨⟨y0,y1,y2,y3,y4⟩,-⟩:=five (HBX.out _ HB1.out))
     |(go_at_call 27;refine(HIN.out _ HB1.out).mono ?_;rintro e w2 ⟨rfl,hb2⟩;have HB2:=hid (below_step HB1.out hb2);obtain⟨⟨z0,z1,z2,z3,z4⟩,-⟩:=five (HBX.out _ HB2.out))
     |(go_at_call 30;refine(HTY.out _ HB2.out).mono ?_;rintro e w4 ⟨rfl,hb4⟩;have HB4:=hid (below_step HB2.out hb4)))
    go_ret2
    exact⟨ret_val HL.out.symm,HLOW.out _ HB4.out⟩
theorem sCan_2 (v:TyV)(t:Ty)(s:ByteArray)(w:World)(h:HasTy w v t)(hs:TySz t)(hS:s.size≤1048576)(hk:t.k=2):
  Calls Tryz.prog 7 #[v.val,.string s] w fun e w'=>e=.returned (tupS (canonT t s))∧Below w.heap.size w w':=by
 have HTY0:=hid (fun W (hb:Below w.heap.size w W)=>sIsTy_any v t W (h.below hb) hs)
 obtain⟨q,hq⟩:∃q,q=isTyB t:=⟨_,rfl⟩
 have HQ:=hid hq
 rw [←hq]at HTY0
 obtain⟨k,rg,nm,pt,ph⟩:=t
 obtain⟨k',vr,vn,pt',ph'⟩:=v
 obtain⟨rfl,hr,hn,rfl,rfl⟩:=h
 obtain⟨s1,s2,s3⟩:=hs
 dsimp only at*
 obtain⟨A,c,rfl,hn1,hc1⟩:=id hr
 obtain⟨A',c',rfl,hn2,hc2⟩:=id hn
 obtain⟨n,hnn⟩:∃n,n=rg.length:=⟨_,rfl⟩
 obtain⟨m,hmm⟩:∃m,m=nm.length:=⟨_,rfl⟩
 rw [←hnn]at hr hn1 HTY0 ⊢
 rw [←hmm]at hn hn2 HTY0 ⊢
 obtain⟨W0,hW0⟩:∃W0,W0=w.alloc (.cells #[.int .i64 k',.slice A n c,.slice A' m c',.string pt',.string ph'] 27):=⟨_,rfl⟩
 have hb0:Below w.heap.size w W0:=by rw [hW0];exact below_al (Below.refl _ _) _
 have hz0:w.heap.size<W0.heap.size:=by rw [hW0];simp
 have HBX:Hid (∀W,Below W0.heap.size W0 W→W.heap[w.heap.size]? =some (.cells #[.int .i64 k',.slice A n c,.slice A' m c',.string pt',.string ph'] 27 (0,0))):=hid fun W hb=>(hb.block _ hz0).trans (by rw [hW0];exact heap_alloc_new' _ _ rfl)
 have HLOW:Hid (∀W,Below W0.heap.size W0 W→Below w.heap.size w W):=hid fun W hb=>below_step hb0 hb
 have HTY:Hid (∀W,Below W0.heap.size W0 W→Calls Tryz.prog 30 #[.agg #[.int .i64 k',.slice A n c,.slice A' m c',.string pt',.string ph']] W fun e w'=>e=.returned (.bool q)∧Below W.heap.size W w'):=hid fun W hb=>HTY0.out W (below_step hb0 hb)
 have HIN:Hid (∀x W,Below W0.heap.size W0 W→Calls Tryz.prog 27 #[.slice A n c,.int .i64 x] W fun e w'=>e=.returned (.bool (inB rg x))∧Below W.heap.size W w'):=hid fun x W hb=>sInR_any _ rg x W (HasR.below hr (below_step hb0 hb))
 have HRD:=hid (fun w=>sRead_any s (by unfold maxLen;omega) w)
 have HTX:=hid (fun w=>sIsText_any s (by unfold maxLen;omega) w)
 have HMT:=hid (fun w=>sMText_any pt' s (by unfold maxLen;omega) hS w)
 have HCE:Hid (∀i (hi:i<nm.length),∃a,A'=some a∧∀W,Below W0.heap.size W0 W→W.cell? (a.add i)=some (.string nm[i])):=hid fun i hi=>by
  obtain⟨a,ha,hab,hcell⟩:=hc2 i hi
  exact⟨a,ha,fun W hb=>by rw [(below_step hb0 hb).cell (by rw [add_blk];exact hab)];exact hcell⟩
 have HM1:Hid (m=nm.length):=hid hmm
 have HBW:Hid (Below W0.heap.size W0 W0):=hid (Below.refl _ _)
 obtain⟨Z,hZ⟩:∃Z,Z=tupS (canonT ⟨k',rg,nm,pt',ph'⟩ s):=⟨_,rfl⟩
 have HZ:=hid hZ
 rw [←hZ]
 obtain⟨⟨x0,x1,x2,x3,x4⟩,-⟩:=five (HBX.out _ HBW.out)
 subst hW0
 clear hZ hr hn hc1 hc2 hnn hmm s1 s2 s3 HTY0 hq x0 x1 x2 x3 x4
 subst hk
 have HC:Hid (canO ⟨2,rg,nm,pt',ph'⟩ s=if (textB s&&inB rg s.size&&(emB pt' || textOfB pt' s))=true then some s else none):=hid rfl
 obtain⟨b1,hb1⟩:∃b,b=textB s:=⟨_,rfl⟩
 obtain⟨b2,hb2⟩:∃b,b=inB rg s.size:=⟨_,rfl⟩
 obtain⟨b3,hb3⟩:∃b,b=textOfB pt' s:=⟨_,rfl⟩
 replace HIN:=hid (HIN.out s.size)
 rw [←hb1,←hb2,←hb3]at HC
 rw [←hb1]at HTX
 rw [←hb2]at HIN
 rw [←hb3]at HMT
 clear hb1 hb2 hb3
 cases b1
 ·
  have HL:Hid (Z=.tuple #[.string ⟨#[]⟩,.bool false]):=hid (by rw [HZ.out];exact tup_none (canon_none (HC.out)))
  go_enter Tryz.func7,Tryz.ntmps7
  go_wp2_with (first
   |(go_at_call 28;refine(HTX.out _).mono ?_;rintro e w' ⟨rfl,rfl⟩))
  go_ret2
  exact⟨ret_val HL.out.symm,HLOW.out _ HBW.out⟩
 ·
  cases b2
  ·
   have HL:Hid (Z=.tuple #[.string ⟨#[]⟩,.bool false]):=hid (by rw [HZ.out];exact tup_none (canon_none (HC.out)))
   go_enter Tryz.func7,Tryz.ntmps7
   go_wp2_with (first
    |(go_at_call 28;refine(HTX.out _).mono ?_;rintro e w' ⟨rfl,rfl⟩)
    |(go_at_call 27;refine(HIN.out _ HBW.out).mono ?_;rintro e w2 ⟨rfl,hb2⟩;have HB2:=hid hb2;obtain⟨⟨z0,z1,z2,z3,z4⟩,-⟩:=five (HBX.out _ HB2.out)))
   go_ret2
   exact⟨ret_val HL.out.symm,HLOW.out _ HB2.out⟩
  ·
   rcases em_cases pt' with rfl|⟨p1,p2,p3,p4⟩
   ·
    cases q
    ·
     have HL:Hid (Z=.tuple #[.string ⟨#[]⟩,.bool false]):=hid (by rw [HZ.out];exact tup_none (canon_no _ HQ.out.symm))
     go_enter Tryz.func7,Tryz.ntmps7
     go_wp2_with (first
      |(go_at_call 28;refine(HTX.out _).mono ?_;rintro e w' ⟨rfl,rfl⟩)
      |(go_at_call 27;refine(HIN.out _ HBW.out).mono ?_;rintro e w2 ⟨rfl,hb2⟩;have HB2:=hid hb2;obtain⟨⟨z0,z1,z2,z3,z4⟩,-⟩:=five (HBX.out _ HB2.out))
      |(go_at_call 30;refine(HTY.out _ HB2.out).mono ?_;rintro e w4 ⟨rfl,hb4⟩;have HB4:=hid (below_step HB2.out hb4)))
     go_ret2
     exact⟨ret_val HL.out.symm,HLOW.out _ HB4.out⟩
    ·
     have HL:Hid (Z=.tuple #[.string s,.bool true]):=hid (by rw [HZ.out];exact tup_some ((canon_yes _ HQ.out.symm).trans (HC.out)))
     go_enter Tryz.func7,Tryz.ntmps7
     go_wp2_with (first
      |(go_at_call 28;refine(HTX.out _).mono ?_;rintro e w' ⟨rfl,rfl⟩)
      |(go_at_call 27;refine(HIN.out _ HBW.out).mono ?_;rintro e w2 ⟨rfl,hb2⟩;have HB2:=hid hb2;obtain⟨⟨z0,z1,z2,z3,z4⟩,-⟩:=five (HBX.out _ HB2.out))
      |(go_at_call 30;refine(HTY.out _ HB2.out).mono ?_;rintro e w4 ⟨rfl,hb4⟩;have HB4:=hid (below_step HB2.out hb4)))
     go_ret2
     exact⟨ret_val HL.out.symm,HLOW.out _ HB4.out⟩
   ·
    rw [p4]at HC
    cases b3
    ·
     have HL:Hid (Z=.tuple #[.string ⟨#[]⟩,.bool false]):=hid (by rw [HZ.out];exact tup_none (canon_none (HC.out)))
     go_enter Tryz.func7,Tryz.ntmps7
     go_wp2_with (first
      |(go_at_call 28;refine(HTX.out _).mono ?_;rintro e w' ⟨rfl,rfl⟩)
      |(go_at_call 27;refine(HIN.out _ HBW.out).mono ?_;rintro e w2 ⟨rfl,hb2⟩;have HB2:=hid hb2;obtain⟨⟨z0,z1,z2,z3,z4⟩,-⟩:=five (HBX.out _ HB2.out))
      |(go_at_call 29;refine(HMT.out _).mono ?_;rintro e w3 ⟨rfl,hb3⟩;have HB3:=hid (below_step HB2.out hb3);obtain⟨⟨u0,u1,u2,u3,u4⟩,-⟩:=five (HBX.out _ HB3.out)))
     go_ret2
     exact⟨ret_val HL.out.symm,HLOW.out _ HB3.out⟩
    ·
     cases q
     ·
      have HL:Hid (Z=.tuple #[.string ⟨#[]⟩,.bool false]):=hid (by rw [HZ.out];exact tup_none (canon_no _ HQ.out.symm))
      go_enter Tryz.func7,Tryz.ntmps7
      go_wp2_with (first
       |(go_at_call 28;refine(HTX.out _).mono ?_;rintro e w' ⟨rfl,rfl⟩)
       |(go_at_call 27;refine(HIN.out _ HBW.out).mono ?_;rintro e w2 ⟨rfl,hb2⟩;have HB2:=hid hb2;obtain⟨⟨z0,z1,z2,z3,z4⟩,-⟩:=five (HBX.out _ HB2.out))
       |(go_at_call 29;refine(HMT.out _).mono ?_;rintro e w3 ⟨rfl,hb3⟩;have HB3:=hid (below_step HB2.out hb3);obtain⟨⟨u0,u1,u2,u3,u4⟩,-⟩:=five (HBX.out _ HB3.out))
       |(go_at_call 30;refine(HTY.out _ HB3.out).mono ?_;rintro e w4 ⟨rfl,hb4⟩;have HB4:=hid (below_step HB3.out hb4)))
      go_ret2
      exact⟨ret_val HL.out.symm,HLOW.out _ HB4.out⟩
     ·
      have HL:Hid (Z=.tuple #[.string s,.bool true]):=hid (by rw [HZ.out];exact tup_some ((canon_yes _ HQ.out.symm).trans (HC.out)))
      go_enter Tryz.func7,Tryz.ntmps7
      go_wp2_with (first
       |(go_at_call 28;refine(HTX.out _).mono ?_;rintro e w' ⟨rfl,rfl⟩)
       |(go_at_call 27;refine(HIN.out _ HBW.out).mono ?_;rintro e w2 ⟨rfl,hb2⟩;have HB2:=hid hb2;obtain⟨⟨z0,z1,z2,z3,z4⟩,-⟩:=five (HBX.out _ HB2.out))
       |(go_at_call 29;refine(HMT.out _).mono ?_;rintro e w3 ⟨rfl,hb3⟩;have HB3:=hid (below_step HB2.out hb3);obtain⟨⟨u0,u1,u2,u3,u4⟩,-⟩:=five (HBX.out _ HB3.out))
       |(go_at_call 30;refine(HTY.out _ HB3.out).mono ?_;rintro e w4 ⟨rfl,hb4⟩;have HB4:=hid (below_step HB3.out hb4)))
      go_ret2
      exact⟨ret_val HL.out.symm,HLOW.out _ HB4.out⟩
theorem sCan_3 (v:TyV)(t:Ty)(s:ByteArray)(w:World)(h:HasTy w v t)(hs:TySz t)(hS:s.size≤1048576)(hk:t.k=3):
  Calls Tryz.prog 7 #[v.val,.string s] w fun e w'=>e=.returned (tupS (canonT t s))∧Below w.heap.size w w':=by
 have HTY0:=hid (fun W (hb:Below w.heap.size w W)=>sIsTy_any v t W (h.below hb) hs)
 obtain⟨q,hq⟩:∃q,q=isTyB t:=⟨_,rfl⟩
 have HQ:=hid hq
 rw [←hq]at HTY0
 obtain⟨k,rg,nm,pt,ph⟩:=t
 obtain⟨k',vr,vn,pt',ph'⟩:=v
 obtain⟨rfl,hr,hn,rfl,rfl⟩:=h
 obtain⟨s1,s2,s3⟩:=hs
 dsimp only at*
 obtain⟨A,c,rfl,hn1,hc1⟩:=id hr
 obtain⟨A',c',rfl,hn2,hc2⟩:=id hn
 obtain⟨n,hnn⟩:∃n,n=rg.length:=⟨_,rfl⟩
 obtain⟨m,hmm⟩:∃m,m=nm.length:=⟨_,rfl⟩
 rw [←hnn]at hr hn1 HTY0 ⊢
 rw [←hmm]at hn hn2 HTY0 ⊢
 obtain⟨W0,hW0⟩:∃W0,W0=w.alloc (.cells #[.int .i64 k',.slice A n c,.slice A' m c',.string pt',.string ph'] 27):=⟨_,rfl⟩
 have hb0:Below w.heap.size w W0:=by rw [hW0];exact below_al (Below.refl _ _) _
 have hz0:w.heap.size<W0.heap.size:=by rw [hW0];simp
 have HBX:Hid (∀W,Below W0.heap.size W0 W→W.heap[w.heap.size]? =some (.cells #[.int .i64 k',.slice A n c,.slice A' m c',.string pt',.string ph'] 27 (0,0))):=hid fun W hb=>(hb.block _ hz0).trans (by rw [hW0];exact heap_alloc_new' _ _ rfl)
 have HLOW:Hid (∀W,Below W0.heap.size W0 W→Below w.heap.size w W):=hid fun W hb=>below_step hb0 hb
 have HTY:Hid (∀W,Below W0.heap.size W0 W→Calls Tryz.prog 30 #[.agg #[.int .i64 k',.slice A n c,.slice A' m c',.string pt',.string ph']] W fun e w'=>e=.returned (.bool q)∧Below W.heap.size W w'):=hid fun W hb=>HTY0.out W (below_step hb0 hb)
 have HIN:Hid (∀x W,Below W0.heap.size W0 W→Calls Tryz.prog 27 #[.slice A n c,.int .i64 x] W fun e w'=>e=.returned (.bool (inB rg x))∧Below W.heap.size W w'):=hid fun x W hb=>sInR_any _ rg x W (HasR.below hr (below_step hb0 hb))
 have HRD:=hid (fun w=>sRead_any s (by unfold maxLen;omega) w)
 have HTX:=hid (fun w=>sIsText_any s (by unfold maxLen;omega) w)
 have HMT:=hid (fun w=>sMText_any pt' s (by unfold maxLen;omega) hS w)
 have HCE:Hid (∀i (hi:i<nm.length),∃a,A'=some a∧∀W,Below W0.heap.size W0 W→W.cell? (a.add i)=some (.string nm[i])):=hid fun i hi=>by
  obtain⟨a,ha,hab,hcell⟩:=hc2 i hi
  exact⟨a,ha,fun W hb=>by rw [(below_step hb0 hb).cell (by rw [add_blk];exact hab)];exact hcell⟩
 have HM1:Hid (m=nm.length):=hid hmm
 have HBW:Hid (Below W0.heap.size W0 W0):=hid (Below.refl _ _)
 obtain⟨Z,hZ⟩:∃Z,Z=tupS (canonT ⟨k',rg,nm,pt',ph'⟩ s):=⟨_,rfl⟩
 have HZ:=hid hZ
 rw [←hZ]
 obtain⟨⟨x0,x1,x2,x3,x4⟩,-⟩:=five (HBX.out _ HBW.out)
 subst hW0
 clear hZ hr hn hc1 hc2 hnn hmm s1 s2 s3 HTY0 hq x0 x1 x2 x3 x4
 subst hk
 have HC:Hid (canO ⟨3,rg,nm,pt',ph'⟩ s=boolO s):=hid rfl
 have hbo:=boolO_is s
 generalize boolO s=o at HC hbo
 rcases hbo with rfl|rfl|rfl|rfl|⟨h1,h2,h3,h4⟩
 ·
  cases q
  ·
   have HL:Hid (Z=.tuple #[.string ⟨#[]⟩,.bool false]):=hid (by rw [HZ.out];exact tup_none (canon_no _ HQ.out.symm))
   go_enter Tryz.func7,Tryz.ntmps7
   go_wp2_with (first
    |(go_at_call 30;refine(HTY.out _ HBW.out).mono ?_;rintro e w4 ⟨rfl,hb4⟩;have HB4:=hid (below_step HBW.out hb4)))
   go_ret2
   exact⟨ret_val HL.out.symm,HLOW.out _ HB4.out⟩
  ·
   have HL:Hid (Z=.tuple #[.string trueS,.bool true]):=hid (by rw [HZ.out];exact tup_some ((canon_yes _ HQ.out.symm).trans (HC.out)))
   go_enter Tryz.func7,Tryz.ntmps7
   go_wp2_with (first
    |(go_at_call 30;refine(HTY.out _ HBW.out).mono ?_;rintro e w4 ⟨rfl,hb4⟩;have HB4:=hid (below_step HBW.out hb4)))
   go_ret2
   exact⟨ret_val HL.out.symm,HLOW.out _ HB4.out⟩
 ·
  cases q
  ·
   have HL:Hid (Z=.tuple #[.string ⟨#[]⟩,.bool false]):=hid (by rw [HZ.out];exact tup_none (canon_no _ HQ.out.symm))
   go_enter Tryz.func7,Tryz.ntmps7
   go_wp2_with (first
    |(go_at_call 30;refine(HTY.out _ HBW.out).mono ?_;rintro e w4 ⟨rfl,hb4⟩;have HB4:=hid (below_step HBW.out hb4)))
   go_ret2
   exact⟨ret_val HL.out.symm,HLOW.out _ HB4.out⟩
  ·
   have HL:Hid (Z=.tuple #[.string trueS,.bool true]):=hid (by rw [HZ.out];exact tup_some ((canon_yes _ HQ.out.symm).trans (HC.out)))
   go_enter Tryz.func7,Tryz.ntmps7
   go_wp2_with (first
    |(go_at_call 30;refine(HTY.out _ HBW.out).mono ?_;rintro e w4 ⟨rfl,hb4⟩;have HB4:=hid (below_step HBW.out hb4)))
   go_ret2
   exact⟨ret_val HL.out.symm,HLOW.out _ HB4.out⟩
 ·
  cases q
  ·
   have HL:Hid (Z=.tuple #[.string ⟨#[]⟩,.bool false]):=hid (by rw [HZ.out];exact tup_none (canon_no _ HQ.out.symm))
   go_enter Tryz.func7,Tryz.ntmps7
   go_wp2_with (first
    |(go_at_call 30;refine(HTY.out _ HBW.out).mono ?_;rintro e w4 ⟨rfl,hb4⟩;have HB4:=hid (below_step HBW.out hb4)))
   go_ret2
   exact⟨ret_val HL.out.symm,HLOW.out _ HB4.out⟩
  ·
   have HL:Hid (Z=.tuple #[.string falseS,.bool true]):=hid (by rw [HZ.out];exact tup_some ((canon_yes _ HQ.out.symm).trans (HC.out)))
   go_enter Tryz.func7,Tryz.ntmps7
   go_wp2_with (first
    |(go_at_call 30;refine(HTY.out _ HBW.out).mono ?_;rintro e w4 ⟨rfl,hb4⟩;have HB4:=hid (below_step HBW.out hb4)))
   go_ret2
   exact⟨ret_val HL.out.symm,HLOW.out _ HB4.out⟩
 ·
  cases q
  ·
   have HL:Hid (Z=.tuple #[.string ⟨#[]⟩,.bool false]):=hid (by rw [HZ.out];exact tup_none (canon_no _ HQ.out.symm))
   go_enter Tryz.func7,Tryz.ntmps7
   go_wp2_with (first
    |(go_at_call 30;refine(HTY.out _ HBW.out).mono ?_;rintro e w4 ⟨rfl,hb4⟩;have HB4:=hid (below_step HBW.out hb4)))
   go_ret2
   exact⟨ret_val HL.out.symm,HLOW.out _ HB4.out⟩
  ·
   have HL:Hid (Z=.tuple #[.string falseS,.bool true]):=hid (by rw [HZ.out];exact tup_some ((canon_yes _ HQ.out.symm).trans (HC.out)))
   go_enter Tryz.func7,Tryz.ntmps7
   go_wp2_with (first
    |(go_at_call 30;refine(HTY.out _ HBW.out).mono ?_;rintro e w4 ⟨rfl,hb4⟩;have HB4:=hid (below_step HBW.out hb4)))
   go_ret2
   exact⟨ret_val HL.out.symm,HLOW.out _ HB4.out⟩
 ·
  have HL:Hid (Z=.tuple #[.string ⟨#[]⟩,.bool false]):=hid (by rw [HZ.out];exact tup_none (canon_none (HC.out)))
  go_enter Tryz.func7,Tryz.ntmps7
  go_wp2
  go_ret2
  exact⟨ret_val HL.out.symm,HLOW.out _ HBW.out⟩
theorem sCan_4 (v:TyV)(t:Ty)(s:ByteArray)(w:World)(h:HasTy w v t)(hs:TySz t)(hS:s.size≤1048576)(hk:t.k=4):
  Calls Tryz.prog 7 #[v.val,.string s] w fun e w'=>e=.returned (tupS (canonT t s))∧Below w.heap.size w w':=by
 have HTY0:=hid (fun W (hb:Below w.heap.size w W)=>sIsTy_any v t W (h.below hb) hs)
 obtain⟨q,hq⟩:∃q,q=isTyB t:=⟨_,rfl⟩
 have HQ:=hid hq
 rw [←hq]at HTY0
 obtain⟨k,rg,nm,pt,ph⟩:=t
 obtain⟨k',vr,vn,pt',ph'⟩:=v
 obtain⟨rfl,hr,hn,rfl,rfl⟩:=h
 obtain⟨s1,s2,s3⟩:=hs
 dsimp only at*
 obtain⟨A,c,rfl,hn1,hc1⟩:=id hr
 obtain⟨A',c',rfl,hn2,hc2⟩:=id hn
 obtain⟨n,hnn⟩:∃n,n=rg.length:=⟨_,rfl⟩
 obtain⟨m,hmm⟩:∃m,m=nm.length:=⟨_,rfl⟩
 rw [←hnn]at hr hn1 HTY0 ⊢
 rw [←hmm]at hn hn2 HTY0 ⊢
 obtain⟨W0,hW0⟩:∃W0,W0=w.alloc (.cells #[.int .i64 k',.slice A n c,.slice A' m c',.string pt',.string ph'] 27):=⟨_,rfl⟩
 have hb0:Below w.heap.size w W0:=by rw [hW0];exact below_al (Below.refl _ _) _
 have hz0:w.heap.size<W0.heap.size:=by rw [hW0];simp
 have HBX:Hid (∀W,Below W0.heap.size W0 W→W.heap[w.heap.size]? =some (.cells #[.int .i64 k',.slice A n c,.slice A' m c',.string pt',.string ph'] 27 (0,0))):=hid fun W hb=>(hb.block _ hz0).trans (by rw [hW0];exact heap_alloc_new' _ _ rfl)
 have HLOW:Hid (∀W,Below W0.heap.size W0 W→Below w.heap.size w W):=hid fun W hb=>below_step hb0 hb
 have HTY:Hid (∀W,Below W0.heap.size W0 W→Calls Tryz.prog 30 #[.agg #[.int .i64 k',.slice A n c,.slice A' m c',.string pt',.string ph']] W fun e w'=>e=.returned (.bool q)∧Below W.heap.size W w'):=hid fun W hb=>HTY0.out W (below_step hb0 hb)
 have HIN:Hid (∀x W,Below W0.heap.size W0 W→Calls Tryz.prog 27 #[.slice A n c,.int .i64 x] W fun e w'=>e=.returned (.bool (inB rg x))∧Below W.heap.size W w'):=hid fun x W hb=>sInR_any _ rg x W (HasR.below hr (below_step hb0 hb))
 have HRD:=hid (fun w=>sRead_any s (by unfold maxLen;omega) w)
 have HTX:=hid (fun w=>sIsText_any s (by unfold maxLen;omega) w)
 have HMT:=hid (fun w=>sMText_any pt' s (by unfold maxLen;omega) hS w)
 have HCE:Hid (∀i (hi:i<nm.length),∃a,A'=some a∧∀W,Below W0.heap.size W0 W→W.cell? (a.add i)=some (.string nm[i])):=hid fun i hi=>by
  obtain⟨a,ha,hab,hcell⟩:=hc2 i hi
  exact⟨a,ha,fun W hb=>by rw [(below_step hb0 hb).cell (by rw [add_blk];exact hab)];exact hcell⟩
 have HM1:Hid (m=nm.length):=hid hmm
 have HBW:Hid (Below W0.heap.size W0 W0):=hid (Below.refl _ _)
 obtain⟨Z,hZ⟩:∃Z,Z=tupS (canonT ⟨k',rg,nm,pt',ph'⟩ s):=⟨_,rfl⟩
 have HZ:=hid hZ
 rw [←hZ]
 obtain⟨⟨x0,x1,x2,x3,x4⟩,-⟩:=five (HBX.out _ HBW.out)
 subst hW0
 clear hZ hr hn hc1 hc2 hnn hmm s1 s2 s3 HTY0 hq x0 x1 x2 x3 x4
 subst hk
 have HC:Hid (canO ⟨4,rg,nm,pt',ph'⟩ s=if memB s nm=true then some s else none):=hid rfl
 go_enter Tryz.func7,Tryz.ntmps7
 go_wp2
 go_loop [7,10] (fun x i=>∃(k:Nat) (b:Bool),k≤m∧i=.int .i64 k∧x=.bool b∧Hid (b=memB s (nm.take k))) (fun _ i=>m-(intOf i).toNat)
 case atStart=>exact⟨0,false,Nat.zero_le _,rfl,rfl,hid (mem0 s nm)⟩
 case round=>
  obtain⟨k,b,hk,rfl,rfl,HM⟩:=hrel
  by_cases hlt:k<m
  ·
   have hlk:k<nm.length:=by rw [←HM1.out];exact hlt
   obtain⟨a,rfl,HCA⟩:=HCE.out k hlk
   have hcell:=HCA _ HBW.out
   have HMS:=hid (mem_snoc s nm k hlk)
   obtain⟨x,hx⟩:∃x,x=nm[k]:=⟨_,rfl⟩
   rw [←hx]at hcell HMS
   have HX:=hid hx
   clear hx HCA
   cases b
   ·
    by_cases he:x=s
    ·
     subst he
     have HM2:Hid (true=memB x (nm.take (k+1))):=hid (by rw [HMS.out];simp)
     go_wp2
     go_round
     case rel=>exact⟨k+1,true,by omega,by go_num,rfl,HM2⟩
     case measure=>simp [intOf];omega
    ·
     have h1:(x.toList==s.toList)=false:=str_ne he
     have HM2:Hid (false=memB s (nm.take (k+1))):=hid (by rw [HMS.out,←HM.out];simp [Ne.symm he])
     go_wp2
     go_round
     case rel=>exact⟨k+1,false,by omega,by go_num,rfl,HM2⟩
     case measure=>simp [intOf];omega
   ·
    have HM2:Hid (true=memB s (nm.take (k+1))):=hid (by rw [HMS.out,←HM.out];rfl)
    go_wp2
    go_round
    case rel=>exact⟨k+1,true,by omega,by go_num,rfl,HM2⟩
    case measure=>simp [intOf];omega
  ·
   have HMM:Hid (b=memB s nm):=hid (by have h:=HM.out;rwa [List.take_of_length_le (by have:=HM1.out;omega)]at h)
   obtain rfl:k=m:=by omega
   cases b
   ·
    have HL:Hid (Z=.tuple #[.string ⟨#[]⟩,.bool false]):=hid (by rw [HZ.out];exact tup_none (canon_none (HC.out.trans (by rw [←HMM.out];rfl))))
    go_wp2
    go_ret2
    exact⟨ret_val HL.out.symm,HLOW.out _ HBW.out⟩
   ·
    cases q
    ·
     have HL:Hid (Z=.tuple #[.string ⟨#[]⟩,.bool false]):=hid (by rw [HZ.out];exact tup_none (canon_no _ HQ.out.symm))
     go_wp2_with (first
      |(go_at_call 30;refine(HTY.out _ HBW.out).mono ?_;rintro e w4 ⟨rfl,hb4⟩;have HB4:=hid (below_step HBW.out hb4)))
     go_ret2
     exact⟨ret_val HL.out.symm,HLOW.out _ HB4.out⟩
    ·
     have HL:Hid (Z=.tuple #[.string s,.bool true]):=hid (by rw [HZ.out];exact tup_some ((canon_yes _ HQ.out.symm).trans (HC.out.trans (by rw [←HMM.out];rfl))))
     go_wp2_with (first
      |(go_at_call 30;refine(HTY.out _ HBW.out).mono ?_;rintro e w4 ⟨rfl,hb4⟩;have HB4:=hid (below_step HBW.out hb4)))
     go_ret2
     exact⟨ret_val HL.out.symm,HLOW.out _ HB4.out⟩
theorem sCan_5 (v:TyV)(t:Ty)(s:ByteArray)(w:World)(h:HasTy w v t)(hs:TySz t)(hS:s.size≤1048576)(hk:t.k=5):
  Calls Tryz.prog 7 #[v.val,.string s] w fun e w'=>e=.returned (tupS (canonT t s))∧Below w.heap.size w w':=by
 have HTY0:=hid (fun W (hb:Below w.heap.size w W)=>sIsTy_any v t W (h.below hb) hs)
 obtain⟨q,hq⟩:∃q,q=isTyB t:=⟨_,rfl⟩
 have HQ:=hid hq
 rw [←hq]at HTY0
 obtain⟨k,rg,nm,pt,ph⟩:=t
 obtain⟨k',vr,vn,pt',ph'⟩:=v
 obtain⟨rfl,hr,hn,rfl,rfl⟩:=h
 obtain⟨s1,s2,s3⟩:=hs
 dsimp only at*
 obtain⟨A,c,rfl,hn1,hc1⟩:=id hr
 obtain⟨A',c',rfl,hn2,hc2⟩:=id hn
 obtain⟨n,hnn⟩:∃n,n=rg.length:=⟨_,rfl⟩
 obtain⟨m,hmm⟩:∃m,m=nm.length:=⟨_,rfl⟩
 rw [←hnn]at hr hn1 HTY0 ⊢
 rw [←hmm]at hn hn2 HTY0 ⊢
 obtain⟨W0,hW0⟩:∃W0,W0=w.alloc (.cells #[.int .i64 k',.slice A n c,.slice A' m c',.string pt',.string ph'] 27):=⟨_,rfl⟩
 have hb0:Below w.heap.size w W0:=by rw [hW0];exact below_al (Below.refl _ _) _
 have hz0:w.heap.size<W0.heap.size:=by rw [hW0];simp
 have HBX:Hid (∀W,Below W0.heap.size W0 W→W.heap[w.heap.size]? =some (.cells #[.int .i64 k',.slice A n c,.slice A' m c',.string pt',.string ph'] 27 (0,0))):=hid fun W hb=>(hb.block _ hz0).trans (by rw [hW0];exact heap_alloc_new' _ _ rfl)
 have HLOW:Hid (∀W,Below W0.heap.size W0 W→Below w.heap.size w W):=hid fun W hb=>below_step hb0 hb
 have HTY:Hid (∀W,Below W0.heap.size W0 W→Calls Tryz.prog 30 #[.agg #[.int .i64 k',.slice A n c,.slice A' m c',.string pt',.string ph']] W fun e w'=>e=.returned (.bool q)∧Below W.heap.size W w'):=hid fun W hb=>HTY0.out W (below_step hb0 hb)
 have HIN:Hid (∀x W,Below W0.heap.size W0 W→Calls Tryz.prog 27 #[.slice A n c,.int .i64 x] W fun e w'=>e=.returned (.bool (inB rg x))∧Below W.heap.size W w'):=hid fun x W hb=>sInR_any _ rg x W (HasR.below hr (below_step hb0 hb))
 have HRD:=hid (fun w=>sRead_any s (by unfold maxLen;omega) w)
 have HTX:=hid (fun w=>sIsText_any s (by unfold maxLen;omega) w)
 have HMT:=hid (fun w=>sMText_any pt' s (by unfold maxLen;omega) hS w)
 have HCE:Hid (∀i (hi:i<nm.length),∃a,A'=some a∧∀W,Below W0.heap.size W0 W→W.cell? (a.add i)=some (.string nm[i])):=hid fun i hi=>by
  obtain⟨a,ha,hab,hcell⟩:=hc2 i hi
  exact⟨a,ha,fun W hb=>by rw [(below_step hb0 hb).cell (by rw [add_blk];exact hab)];exact hcell⟩
 have HM1:Hid (m=nm.length):=hid hmm
 have HBW:Hid (Below W0.heap.size W0 W0):=hid (Below.refl _ _)
 obtain⟨Z,hZ⟩:∃Z,Z=tupS (canonT ⟨k',rg,nm,pt',ph'⟩ s):=⟨_,rfl⟩
 have HZ:=hid hZ
 rw [←hZ]
 obtain⟨⟨x0,x1,x2,x3,x4⟩,-⟩:=five (HBX.out _ HBW.out)
 subst hW0
 clear hZ hr hn hc1 hc2 hnn hmm s1 s2 s3 HTY0 hq x0 x1 x2 x3 x4
 subst hk
 have HC:Hid (canO ⟨5,rg,nm,pt',ph'⟩ s=if (!emB s&&textB s)=true then some s else none):=hid rfl
 obtain⟨b1,hb1⟩:∃b,b=textB s:=⟨_,rfl⟩
 rw [←hb1]at HC HTX
 clear hb1
 cases b1
 ·
  have HL:Hid (Z=.tuple #[.string ⟨#[]⟩,.bool false]):=hid (by rw [HZ.out];exact tup_none (canon_none (HC.out.trans (by cases emB s<;>rfl))))
  go_enter Tryz.func7,Tryz.ntmps7
  go_wp2_with (first
   |(go_at_call 28;refine(HTX.out _).mono ?_;rintro e w' ⟨rfl,rfl⟩))
  go_ret2
  exact⟨ret_val HL.out.symm,HLOW.out _ HBW.out⟩
 ·
  rcases em_cases s with rfl|⟨p1,p2,p3,p4⟩
  ·
   have HL:Hid (Z=.tuple #[.string ⟨#[]⟩,.bool false]):=hid (by rw [HZ.out];exact tup_none (canon_none (HC.out)))
   go_enter Tryz.func7,Tryz.ntmps7
   go_wp2_with (first
    |(go_at_call 28;refine(HTX.out _).mono ?_;rintro e w' ⟨rfl,rfl⟩))
   go_ret2
   exact⟨ret_val HL.out.symm,HLOW.out _ HBW.out⟩
  ·
   rw [p4]at HC
   cases q
   ·
    have HL:Hid (Z=.tuple #[.string ⟨#[]⟩,.bool false]):=hid (by rw [HZ.out];exact tup_none (canon_no _ HQ.out.symm))
    go_enter Tryz.func7,Tryz.ntmps7
    go_wp2_with (first
     |(go_at_call 28;refine(HTX.out _).mono ?_;rintro e w' ⟨rfl,rfl⟩)
     |(go_at_call 30;refine(HTY.out _ HBW.out).mono ?_;rintro e w4 ⟨rfl,hb4⟩;have HB4:=hid (below_step HBW.out hb4)))
    go_ret2
    exact⟨ret_val HL.out.symm,HLOW.out _ HB4.out⟩
   ·
    have HL:Hid (Z=.tuple #[.string s,.bool true]):=hid (by rw [HZ.out];exact tup_some ((canon_yes _ HQ.out.symm).trans (HC.out)))
    go_enter Tryz.func7,Tryz.ntmps7
    go_wp2_with (first
     |(go_at_call 28;refine(HTX.out _).mono ?_;rintro e w' ⟨rfl,rfl⟩)
     |(go_at_call 30;refine(HTY.out _ HBW.out).mono ?_;rintro e w4 ⟨rfl,hb4⟩;have HB4:=hid (below_step HBW.out hb4)))
    go_ret2
    exact⟨ret_val HL.out.symm,HLOW.out _ HB4.out⟩
theorem sCan_6 (v:TyV)(t:Ty)(s:ByteArray)(w:World)(h:HasTy w v t)(hs:TySz t)(hS:s.size≤1048576)(hk:t.k=6):
  Calls Tryz.prog 7 #[v.val,.string s] w fun e w'=>e=.returned (tupS (canonT t s))∧Below w.heap.size w w':=by
 have HTY0:=hid (fun W (hb:Below w.heap.size w W)=>sIsTy_any v t W (h.below hb) hs)
 obtain⟨q,hq⟩:∃q,q=isTyB t:=⟨_,rfl⟩
 have HQ:=hid hq
 rw [←hq]at HTY0
 obtain⟨k,rg,nm,pt,ph⟩:=t
 obtain⟨k',vr,vn,pt',ph'⟩:=v
 obtain⟨rfl,hr,hn,rfl,rfl⟩:=h
 obtain⟨s1,s2,s3⟩:=hs
 dsimp only at*
 obtain⟨A,c,rfl,hn1,hc1⟩:=id hr
 obtain⟨A',c',rfl,hn2,hc2⟩:=id hn
 obtain⟨n,hnn⟩:∃n,n=rg.length:=⟨_,rfl⟩
 obtain⟨m,hmm⟩:∃m,m=nm.length:=⟨_,rfl⟩
 rw [←hnn]at hr hn1 HTY0 ⊢
 rw [←hmm]at hn hn2 HTY0 ⊢
 obtain⟨W0,hW0⟩:∃W0,W0=w.alloc (.cells #[.int .i64 k',.slice A n c,.slice A' m c',.string pt',.string ph'] 27):=⟨_,rfl⟩
 have hb0:Below w.heap.size w W0:=by rw [hW0];exact below_al (Below.refl _ _) _
 have hz0:w.heap.size<W0.heap.size:=by rw [hW0];simp
 have HBX:Hid (∀W,Below W0.heap.size W0 W→W.heap[w.heap.size]? =some (.cells #[.int .i64 k',.slice A n c,.slice A' m c',.string pt',.string ph'] 27 (0,0))):=hid fun W hb=>(hb.block _ hz0).trans (by rw [hW0];exact heap_alloc_new' _ _ rfl)
 have HLOW:Hid (∀W,Below W0.heap.size W0 W→Below w.heap.size w W):=hid fun W hb=>below_step hb0 hb
 have HTY:Hid (∀W,Below W0.heap.size W0 W→Calls Tryz.prog 30 #[.agg #[.int .i64 k',.slice A n c,.slice A' m c',.string pt',.string ph']] W fun e w'=>e=.returned (.bool q)∧Below W.heap.size W w'):=hid fun W hb=>HTY0.out W (below_step hb0 hb)
 have HIN:Hid (∀x W,Below W0.heap.size W0 W→Calls Tryz.prog 27 #[.slice A n c,.int .i64 x] W fun e w'=>e=.returned (.bool (inB rg x))∧Below W.heap.size W w'):=hid fun x W hb=>sInR_any _ rg x W (HasR.below hr (below_step hb0 hb))
 have HRD:=hid (fun w=>sRead_any s (by unfold maxLen;omega) w)
 have HTX:=hid (fun w=>sIsText_any s (by unfold maxLen;omega) w)
 have HMT:=hid (fun w=>sMText_any pt' s (by unfold maxLen;omega) hS w)
 have HCE:Hid (∀i (hi:i<nm.length),∃a,A'=some a∧∀W,Below W0.heap.size W0 W→W.cell? (a.add i)=some (.string nm[i])):=hid fun i hi=>by
  obtain⟨a,ha,hab,hcell⟩:=hc2 i hi
  exact⟨a,ha,fun W hb=>by rw [(below_step hb0 hb).cell (by rw [add_blk];exact hab)];exact hcell⟩
 have HM1:Hid (m=nm.length):=hid hmm
 have HBW:Hid (Below W0.heap.size W0 W0):=hid (Below.refl _ _)
 obtain⟨Z,hZ⟩:∃Z,Z=tupS (canonT ⟨k',rg,nm,pt',ph'⟩ s):=⟨_,rfl⟩
 have HZ:=hid hZ
 rw [←hZ]
 obtain⟨⟨x0,x1,x2,x3,x4⟩,-⟩:=five (HBX.out _ HBW.out)
 subst hW0
 clear hZ hr hn hc1 hc2 hnn hmm s1 s2 s3 HTY0 hq x0 x1 x2 x3 x4
 subst hk
 have HC:Hid (canO ⟨6,rg,nm,pt',ph'⟩ s=if emB s=true then some s else none):=hid rfl
 rcases em_cases s with rfl|⟨p1,p2,p3,p4⟩
 ·
  cases q
  ·
   have HL:Hid (Z=.tuple #[.string ⟨#[]⟩,.bool false]):=hid (by rw [HZ.out];exact tup_none (canon_no _ HQ.out.symm))
   go_enter Tryz.func7,Tryz.ntmps7
   go_wp2_with (first
    |(go_at_call 30;refine(HTY.out _ HBW.out).mono ?_;rintro e w4 ⟨rfl,hb4⟩;have HB4:=hid (below_step HBW.out hb4)))
   go_ret2
   exact⟨ret_val HL.out.symm,HLOW.out _ HB4.out⟩
  ·
   have HL:Hid (Z=.tuple #[.string ⟨#[]⟩,.bool true]):=hid (by rw [HZ.out];exact tup_some ((canon_yes _ HQ.out.symm).trans (HC.out)))
   go_enter Tryz.func7,Tryz.ntmps7
   go_wp2_with (first
    |(go_at_call 30;refine(HTY.out _ HBW.out).mono ?_;rintro e w4 ⟨rfl,hb4⟩;have HB4:=hid (below_step HBW.out hb4)))
   go_ret2
   exact⟨ret_val HL.out.symm,HLOW.out _ HB4.out⟩
 ·
  rw [p4]at HC
  have HL:Hid (Z=.tuple #[.string ⟨#[]⟩,.bool false]):=hid (by rw [HZ.out];exact tup_none (canon_none (HC.out)))
  go_enter Tryz.func7,Tryz.ntmps7
  go_wp2
  go_ret2
  exact⟨ret_val HL.out.symm,HLOW.out _ HBW.out⟩
theorem sCan_0 (v:TyV)(t:Ty)(s:ByteArray)(w:World)(h:HasTy w v t)(hs:TySz t)(hS:s.size≤1048576)(hk:t.k≠1∧t.k≠2∧t.k≠3∧t.k≠4∧t.k≠5∧t.k≠6):
  Calls Tryz.prog 7 #[v.val,.string s] w fun e w'=>e=.returned (tupS (canonT t s))∧Below w.heap.size w w':=by
 have HTY0:=hid (fun W (hb:Below w.heap.size w W)=>sIsTy_any v t W (h.below hb) hs)
 obtain⟨q,hq⟩:∃q,q=isTyB t:=⟨_,rfl⟩
 have HQ:=hid hq
 rw [←hq]at HTY0
 obtain⟨k,rg,nm,pt,ph⟩:=t
 obtain⟨k',vr,vn,pt',ph'⟩:=v
 obtain⟨rfl,hr,hn,rfl,rfl⟩:=h
 obtain⟨s1,s2,s3⟩:=hs
 dsimp only at*
 obtain⟨A,c,rfl,hn1,hc1⟩:=id hr
 obtain⟨A',c',rfl,hn2,hc2⟩:=id hn
 obtain⟨n,hnn⟩:∃n,n=rg.length:=⟨_,rfl⟩
 obtain⟨m,hmm⟩:∃m,m=nm.length:=⟨_,rfl⟩
 rw [←hnn]at hr hn1 HTY0 ⊢
 rw [←hmm]at hn hn2 HTY0 ⊢
 obtain⟨W0,hW0⟩:∃W0,W0=w.alloc (.cells #[.int .i64 k',.slice A n c,.slice A' m c',.string pt',.string ph'] 27):=⟨_,rfl⟩
 have hb0:Below w.heap.size w W0:=by rw [hW0];exact below_al (Below.refl _ _) _
 have hz0:w.heap.size<W0.heap.size:=by rw [hW0];simp
 have HBX:Hid (∀W,Below W0.heap.size W0 W→W.heap[w.heap.size]? =some (.cells #[.int .i64 k',.slice A n c,.slice A' m c',.string pt',.string ph'] 27 (0,0))):=hid fun W hb=>(hb.block _ hz0).trans (by rw [hW0];exact heap_alloc_new' _ _ rfl)
 have HLOW:Hid (∀W,Below W0.heap.size W0 W→Below w.heap.size w W):=hid fun W hb=>below_step hb0 hb
 have HTY:Hid (∀W,Below W0.heap.size W0 W→Calls Tryz.prog 30 #[.agg #[.int .i64 k',.slice A n c,.slice A' m c',.string pt',.string ph']] W fun e w'=>e=.returned (.bool q)∧Below W.heap.size W w'):=hid fun W hb=>HTY0.out W (below_step hb0 hb)
 have HIN:Hid (∀x W,Below W0.heap.size W0 W→Calls Tryz.prog 27 #[.slice A n c,.int .i64 x] W fun e w'=>e=.returned (.bool (inB rg x))∧Below W.heap.size W w'):=hid fun x W hb=>sInR_any _ rg x W (HasR.below hr (below_step hb0 hb))
 have HRD:=hid (fun w=>sRead_any s (by unfold maxLen;omega) w)
 have HTX:=hid (fun w=>sIsText_any s (by unfold maxLen;omega) w)
 have HMT:=hid (fun w=>sMText_any pt' s (by unfold maxLen;omega) hS w)
 have HCE:Hid (∀i (hi:i<nm.length),∃a,A'=some a∧∀W,Below W0.heap.size W0 W→W.cell? (a.add i)=some (.string nm[i])):=hid fun i hi=>by
  obtain⟨a,ha,hab,hcell⟩:=hc2 i hi
  exact⟨a,ha,fun W hb=>by rw [(below_step hb0 hb).cell (by rw [add_blk];exact hab)];exact hcell⟩
 have HM1:Hid (m=nm.length):=hid hmm
 have HBW:Hid (Below W0.heap.size W0 W0):=hid (Below.refl _ _)
 obtain⟨Z,hZ⟩:∃Z,Z=tupS (canonT ⟨k',rg,nm,pt',ph'⟩ s):=⟨_,rfl⟩
 have HZ:=hid hZ
 rw [←hZ]
 obtain⟨⟨x0,x1,x2,x3,x4⟩,-⟩:=five (HBX.out _ HBW.out)
 subst hW0
 clear hZ hr hn hc1 hc2 hnn hmm s1 s2 s3 HTY0 hq x0 x1 x2 x3 x4
 obtain⟨k1,k2,k3,k4,k5,k6⟩:=hk
 have e1:(k'==1)=false:=beq_eq_false_iff_ne.2 k1
 have e2:(k'==2)=false:=beq_eq_false_iff_ne.2 k2
 have e3:(k'==3)=false:=beq_eq_false_iff_ne.2 k3
 have e4:(k'==4)=false:=beq_eq_false_iff_ne.2 k4
 have e5:(k'==5)=false:=beq_eq_false_iff_ne.2 k5
 have e6:(k'==6)=false:=beq_eq_false_iff_ne.2 k6
 have HL:Hid (Z=.tuple #[.string ⟨#[]⟩,.bool false]):=hid (by rw [HZ.out];exact tup_none (canon_none (by unfold canO;simp [k1,k2,k3,k4,k5,k6])))
 go_enter Tryz.func7,Tryz.ntmps7
 go_wp2
 go_ret2
 exact⟨ret_val HL.out.symm,HLOW.out _ HBW.out⟩
theorem sCanon_any (v:TyV)(t:Ty)(s:ByteArray)(w:World)(h:HasTy w v t)(hs:TySz t)(hS:s.size≤1048576):
  Calls Tryz.prog 7 #[v.val,.string s] w fun e w'=>e=.returned (tupS (canonT t s))∧Below w.heap.size w w':=by
 by_cases k1:t.k=1
 ·exact sCan_1 v t s w h hs hS k1
 by_cases k2:t.k=2
 ·exact sCan_2 v t s w h hs hS k2
 by_cases k3:t.k=3
 ·exact sCan_3 v t s w h hs hS k3
 by_cases k4:t.k=4
 ·exact sCan_4 v t s w h hs hS k4
 by_cases k5:t.k=5
 ·exact sCan_5 v t s w h hs hS k5
 by_cases k6:t.k=6
 ·exact sCan_6 v t s w h hs hS k6
 exact sCan_0 v t s w h hs hS ⟨k1,k2,k3,k4,k5,k6⟩
end
end Go.Proofs.YtecladbckadijaaGreatDoor
