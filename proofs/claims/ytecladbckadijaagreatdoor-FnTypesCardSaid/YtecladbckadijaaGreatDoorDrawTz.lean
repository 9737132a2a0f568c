/- MERGED for a claim. -/
import Derived.Test.YtecladbckadijaaGreatDoorDrawT
set_option linter.unusedVariables false
set_option linter.unusedSimpArgs false
set_option maxRecDepth 100000
set_option maxHeartbeats 16000000
namespace Go.Proofs.YtecladbckadijaaGreatDoor
open Go.Lib (hid)
section
open Go.RowKit

theorem box_kept {w w1:World}{cs:Array Value}{t:TypeId}{g:Nat}(hg:g<w.heap.size)(h:(w.alloc (.cells cs t)).grownBy w1 (some g)):w1.heap[w.heap.size]? =some (.cells cs t (0,0)):=by
 rw [h.block w.heap.size (by simp) (fun e=>by have:=Option.some.inj e;omega)]
 exact heap_alloc_new w _
theorem Cur.set {w w':World}{g b:Nat}{A:Option Addr}{n cap:Nat}(c:Cur w' g A n cap)(hg:g<w.heap.size)(hb:b=w.heap.size)(hA:0<n→∀a,A=some a→a.block<w.heap.size)(j:Nat)(v:Value):Cur (w'.setCell ⟨b,j,none⟩ v) g A n cap:=by
 refine c.grown (r:=b) ⟨rfl,rfl,rfl,by simp [World.setCell],fun i _ hne=>Below.heap_setCell w' ⟨b,j,none⟩ v i (fun e=>hne (by rw [e]))⟩ (by omega) (fun hn a ha=>by have:=hA hn a ha;omega)
theorem byG_own {w w':World}{g:Nat}{o:Obj}(h:(w.alloc o).grownBy w' (some g))(j:Nat)(v:Value):w.grownBy (w'.setCell ⟨w.heap.size,j,none⟩ v) (some g):=by
 have h1:w.grownBy w' (some g):=(byG_alloc (byG_refl w _) o).trans h
 exact⟨h1.os,h1.tape,h1.output,by simpa [World.setCell]using h1.size,fun b hb hne=>(Below.heap_setCell w' ⟨w.heap.size,j,none⟩ v b (fun e=>by simp at e;omega)).trans (h1.block b hb hne)⟩
theorem byG_past {w w1 w2:World}{g r:Nat}(h:w.grownBy w1 (some g))(h2:w1.grownBy w2 (some r))(hr:w.heap.size≤r):w.grownBy w2 (some g):=
 ⟨h2.os.trans h.os,h2.tape.trans h.tape,h2.output.trans h.output,Nat.le_trans h.size h2.size,fun b hb hne=>(h2.block b (Nat.lt_of_lt_of_le hb h.size) (fun e=>by have:=Option.some.inj e;omega)).trans (h.block b hb hne)⟩
def RgSm (x:Rg):Prop:=-10≤x.lo∧x.lo≤19∧x.lo-1≤x.hi∧x.hi≤28
def RngOut (w:World)(g:Nat)(A:Option Addr)(n cap:Nat)(e:Ending)(w':World):Prop:=
 ∃x:Rg,RgSm x∧e=.returned (.agg #[.int .i64 x.lo,.int .i64 x.hi])∧Cur w' g A n cap∧w.grownBy w' (some g)
theorem range_any (g:Nat)(A:Option Addr)(n cap:Nat)(w:World)(hc:Cur w g A n cap)(hA:0<n→∀a,A=some a→a.block<w.heap.size):
  Calls Tryz.prog 75 #[.pointer (some ⟨g,0,none⟩)] w (RngOut w g A n cap):=by
 have hgl:=hc.lt
 have hc0:=hc.alloc (.cells #[.int .i64 0,.int .i64 0] 80)
 go_enter Tryz.func75,Tryz.ntmps75
 go_wp2_with (first
  |(go_at_call 44;((with_reducible refine(below_any g A n cap 30 (by omega) _ hc0).mono ?_);rintro e w1 ⟨x,hx0,hx1,hx2,rfl,hc1,hg1⟩;have hx3:=hx2 (by omega);clear hx1 hx2 hc0;have hgl1:=hc1.lt))
  |(go_at_call 107;((with_reducible refine(int_any (fun v=>decide (-1≤v∧v≤9)=true) g A n cap ⟨w1.heap.size,0,none⟩ 6 6 (by omega) (by omega) _ (new_ints (fun v=>decide (-1≤v∧v≤9)) (by decide) (by decide) hgl1) (hc1.alloc _)).mono ?_);rintro e w2 ⟨y,hy,rfl,hc2,hg2⟩;have hy:=of_decide_eq_true hy;have hG:(w.alloc (.cells #[.int .i64 0,.int .i64 0] 80)).grownBy w2 (some g):=(byG_alloc hg1 _).trans hg2;have hbk:=box_kept hgl hG;have k0:w2.cell? ⟨w.heap.size,0,none⟩=some (.int .i64 0):=(by rw [cell_of_row _ w.heap.size 0 _ _ _ hbk];rfl);have k1:w2.cell? ⟨w.heap.size,1,none⟩=some (.int .i64 0):=(by rw [cell_of_row _ w.heap.size 1 _ _ _ hbk];rfl);have f0:w2.frozen? ⟨w.heap.size,0,none⟩=false:=(by simp [World.frozen?,hbk]);have f1:w2.frozen? ⟨w.heap.size,1,none⟩=false:=(by simp [World.frozen?,hbk]);have HBK:=hid hbk;clear hbk)))
 have hb1:(w2.setCell ⟨w.heap.size,0,none⟩ (.int .i64 (x-10))).heap[w.heap.size]? =some (.cells #[.int .i64 (x-10),.int .i64 0] 80 (0,0)):=by rw [heap_setCell_same w2 w.heap.size 0 _ _ _ HBK.out];rfl
 have hb2:((w2.setCell ⟨w.heap.size,0,none⟩ (.int .i64 (x-10))).setCell ⟨w.heap.size,1,none⟩ (.int .i64 (x-10+y))).heap[w.heap.size]? =some (.cells #[.int .i64 (x-10),.int .i64 (x-10+y)] 80 (0,0)):=by rw [heap_setCell_same _ w.heap.size 1 _ _ _ hb1];rfl
 have e0:=cell_of_row _ w.heap.size 0 _ _ _ hb2
 have e1:=cell_of_row _ w.heap.size 1 _ _ _ hb2
 generalize HW:((w2.setCell ⟨w.heap.size,0,none⟩ (.int .i64 (x-10))).setCell ⟨w.heap.size,1,none⟩ (.int .i64 (x-10+y)))=wz at e0 e1 ⊢
 have e0':wz.cell? ⟨w.heap.size,0,none⟩=some (.int .i64 (x-10)):=e0
 have e1':wz.cell? ⟨w.heap.size,1,none⟩=some (.int .i64 (x-10+y)):=e1
 clear e0 e1 hb1 hb2 k0 k1
 refine bodyPost_ret (v:=.agg #[.int .i64 (x-10),.int .i64 (x-10+y)]) (by simp [results,Tryz.results75,go_sem,e0',e1']) rfl ⟨⟨x-10,x-10+y⟩,?_,rfl,?_,?_⟩
 ·clear HW;unfold RgSm;simp only;omega
 all_goals subst HW
 ·exact(hc2.set hgl rfl hA _ _).set hgl rfl hA _ _
 ·exact byG_past (byG_own hG _ _) (byG_set (byG_refl _ _) _ _) (Nat.le_refl _)
def RgsOut (B k:Nat)(w:World)(g:Nat)(A:Option Addr)(n cap:Nat)(e:Ending)(w':World):Prop:=
 ∃(v:Value) (L:List Rg),e=.returned v∧RowG B w' v L∧Nrm L∧L.length≤k∧Cur w' g A n cap∧w.grownBy w' (some g)
theorem rngs_any (g:Nat)(A:Option Addr)(n cap:Nat)(w:World)(hc:Cur w g A n cap)(hA:0<n→∀a,A=some a→a.block<w.heap.size):
  Calls Tryz.prog 37 #[.pointer (some ⟨g,0,none⟩)] w (RgsOut w.heap.size 3 w g A n cap):=by
 have hgl:=hc.lt
 have hc0:=hc.alloc (.cells #[] 80)
 have hrow0:RowG w.heap.size (w.alloc (.cells #[] 80)) (.slice (some ⟨w.heap.size,0,none⟩) 0 0) []:=rowG_new w _ (Nat.le_refl _)
 go_enter Tryz.func37,Tryz.ntmps37
 go_wp2_with (first
  |(go_at_call 44;((with_reducible refine(below_any g A n cap 4 (by omega) _ hc0).mono ?_);rintro e w1 ⟨x,hx0,hx1,hx2,rfl,hc1,hg1⟩;have hx3:=hx2 (by omega);clear hx1 hx2 hc0;have hrow1:=RowR.apart hrow0 hg1 (Nat.ne_of_gt hgl);have hG1:w.grownBy w1 (some g):=(byG_alloc (byG_refl w _) _).trans hg1;clear hrow0 hg1)))
 go_loopw [3,4] (fun u i wr=>∃(k r c:Nat) (L:List Rg),u=.slice (some ⟨r,0,none⟩) L.length c∧i=.int .i64 k∧L.length+k≤3∧RowG w.heap.size wr (.slice (some ⟨r,0,none⟩) L.length c) L∧Cur wr g A n cap∧w.grownBy wr (some g)) (fun _ i _=>(intOf i).toNat)
 case atStart=>exact⟨x.toNat,w.heap.size,0,[],rfl,by rw [Int.toNat_of_nonneg hx0],by simp;omega,hrow1,hc1,hG1⟩
 case round=>
  obtain⟨k,r,c,L,rfl,rfl,hk,hrow,hcur,hgr⟩:=hrel
  by_cases hk0:0<k
  ·obtain⟨m,hm⟩:∃m,m=L.length:=⟨_,rfl⟩
   have HM:Hid (m=L.length):=hid hm
   rw [←hm]at hk hrow ⊢
   clear hm
   go_wp2_with (first
    |(go_at_call 75;((with_reducible refine(range_any _ _ _ _ _ hcur (fun hn a ha=>Nat.lt_of_lt_of_le (hA hn a ha) hgr.size)).mono ?_);rintro e w3 ⟨y,hy,rfl,hc3,hg3⟩;have hrow3:=RowR.apart hrow hg3 (Nat.ne_of_gt (Nat.lt_of_lt_of_le hgl (hrow.lt rfl).1));have hG3:=hgr.trans hg3;clear hrow hg3 hgr hcur))
    |(at_builtin;refine wpList_rng_append rfl _ _ rfl w.heap.size r m c L rfl hrow3 y w3.heap.size rfl rfl (by omega) hG3.size (m+1) rfl ?_;intro r4 c4 w4 hrow4 hg4))
   go_roundw
   case rel=>
    have hrl:w.heap.size≤r:=(hrow3.lt rfl).1
    have hl:(L++ [y]).length=m+1:=by rw [List.length_append,←HM.out];rfl
    exact⟨k-1,r4,c4,L++ [y],by rw [hl],by go_num,by rw [hl];omega,by rw [hl];exact hrow4,(hc3.alloc _).grown hg4 (by omega) (fun hn a ha=>by have:=hA hn a ha;omega),byG_past (byG_alloc hG3 _) hg4 hrl⟩
   case measure=>simp [intOf];omega
  ·have hL:L.length≤274877906944:=by omega
   have hbd:=normS_length L
   go_wp2_with (go_at_call 76;((refine(sNorm_any _ L _ hrow.hasG hL).mono ?_);rintro e w5 ⟨v,rfl,hrow5,hb5⟩))
   go_ret
   exact⟨v,normS L,rfl,RowR.mono hrow5 hgr.size,(normS_is L).1,by omega,hcur.below hb5,hgr.trans (byG_below hb5 _)⟩
end
section
open Go.RowKit

def SzOut5 (k:Nat)(w:World)(g:Nat)(A:Option Addr)(n cap:Nat)(e:Ending)(w':World):Prop:=∃v:ByteArray,v.size≤k∧e=.returned (.string v)∧Cur w' g A n cap∧w.grownBy w' (some g)
theorem sz_40:(⟨#[40]⟩:ByteArray).size=1:=rfl
theorem sz_41:(⟨#[41]⟩:ByteArray).size=1:=rfl
theorem sz_42:(⟨#[42]⟩:ByteArray).size=1:=rfl
theorem sz_124:(⟨#[124]⟩:ByteArray).size=1:=rfl
theorem draw5_0 (g:Nat)(A:Option Addr)(n cap:Nat)(w:World)(hc:Cur w g A n cap):
  Calls Tryz.prog 74 #[.pointer (some ⟨g,0,none⟩),.int .i64 0] w (SzOut5 60 w g A n cap):=by
 go_enter Tryz.func74,Tryz.ntmps74
 go_wp2_with (go_at_call 45;refine(str_any (fun s=>small s=true) g A n cap ⟨w.heap.size,0,none⟩ 10 10 (by omega) (by omega) _ (new_strs small (by decide) (by decide) hc.lt) (hc.alloc _)).mono ?_;rintro e w' ⟨v,hv,rfl,hc1,hg1⟩)
 go_ret
 exact⟨v,of_decide_eq_true hv,rfl,hc1,(byG_alloc (byG_refl w _) _).trans hg1⟩
theorem draw5_1 (g:Nat)(A:Option Addr)(n cap:Nat)(w:World)(hc:Cur w g A n cap):
  Calls Tryz.prog 74 #[.pointer (some ⟨g,0,none⟩),.int .i64 1] w (SzOut5 190 w g A n cap):=by
 have H0:=hid (fun w hc=>draw5_0 g A n cap w hc)
 have H1:=hid (fun w hc=>draw5_0 g A n cap w hc)
 go_enter Tryz.func74,Tryz.ntmps74
 go_wp2_with fail
 refine(below_any g A n cap 6 (by omega) _ hc).mono ?_
 rintro e w1 ⟨x,hx0,hx1,hx2,rfl,hc1,G1⟩
 clear hx1 hx2 hc
 by_cases x0:x=0
 ·subst x0
  go_wp2_with fail
  refine(H1.out _ hc1).mono ?_
  rintro e w2 ⟨u,hu,rfl,hc2,hg⟩
  have G2:=G1.trans hg
  clear hg
  go_wp2_with fail
  refine(H1.out _ hc2).mono ?_
  rintro e w3 ⟨v,hv,rfl,hc3,hg⟩
  have G3:=G2.trans hg
  clear hg
  go_wp2
  go_ret
  exact⟨_,by simp only [ByteArray.size_append,sz_40,sz_41,sz_124];omega,rfl,hc3,G3⟩
 have e0:(x==0)=false:=beq_eq_false_iff_ne.2 x0
 by_cases x1:x=1
 ·subst x1
  go_wp2_with fail
  refine(H0.out _ hc1).mono ?_
  rintro e w2 ⟨u,hu,rfl,hc2,hg⟩
  have G2:=G1.trans hg
  clear hg
  go_wp2
  go_ret
  exact⟨_,by simp only [ByteArray.size_append,sz_42];omega,rfl,hc2,G2⟩
 have e1:(x==1)=false:=beq_eq_false_iff_ne.2 x1
 by_cases x2:x=2
 ·subst x2
  go_wp2_with fail
  refine(H1.out _ hc1).mono ?_
  rintro e w2 ⟨u,hu,rfl,hc2,hg⟩
  have G2:=G1.trans hg
  clear hg
  go_wp2_with fail
  refine(str_any (fun s=>small s=true) g A n cap ⟨w2.heap.size,0,none⟩ 3 3 (by omega) (by omega) _ (new_strs small (by decide) (by decide) hc2.lt) (hc2.alloc _)).mono ?_
  rintro e w3 ⟨z,hz,rfl,hc3,hg3⟩
  have G3:=(byG_alloc G2 _).trans hg3
  have hz':z.size≤60:=of_decide_eq_true hz
  clear hz hg3
  go_wp2
  go_ret
  exact⟨_,by simp only [ByteArray.size_append,sz_40,sz_41];omega,rfl,hc3,G3⟩
 have e2:(x==2)=false:=beq_eq_false_iff_ne.2 x2
 ·go_wp2_with fail
  refine(H1.out _ hc1).mono ?_
  rintro e w2 ⟨u,hu,rfl,hc2,hg⟩
  have G2:=G1.trans hg
  clear hg
  go_wp2_with fail
  refine(H1.out _ hc2).mono ?_
  rintro e w3 ⟨v,hv,rfl,hc3,hg⟩
  have G3:=G2.trans hg
  clear hg
  go_wp2
  go_ret
  exact⟨_,by simp only [ByteArray.size_append];omega,rfl,hc3,G3⟩
theorem word5_any (g:Nat)(A:Option Addr)(n cap:Nat)(w:World)(hc:Cur w g A n cap):
  Calls Tryz.prog 47 #[.pointer (some ⟨g,0,none⟩)] w (SzOut5 400 w g A n cap):=by
 go_enter Tryz.func47,Tryz.ntmps47
 go_wp2_with (go_at_call 44;((with_reducible refine(below_any g A n cap 6 (by omega) _ hc).mono ?_);rintro e w1 ⟨x,hx0,hx1,hx2,rfl,hc1,hg1⟩;have hx3:=hx2 (by omega);clear hx1 hx2))
 go_loopw [3,4] (fun s i wr=>∃(k:Nat) (v:ByteArray),i=.int .i64 k∧s=.string v∧k≤5∧v.size+60*k≤300∧Cur wr g A n cap∧w.grownBy wr (some g)) (fun _ i _=>(intOf i).toNat)
 case atStart=>exact⟨x.toNat,⟨#[]⟩,by rw [Int.toNat_of_nonneg hx0],rfl,by omega,by show 0+_≤_;omega,hc1,hg1⟩
 case round=>
  obtain⟨k,v,rfl,rfl,hk8,hv,hcur,hgr⟩:=hrel
  by_cases hk0:0<k
  ·have hv2:v.size≤300:=by omega
   go_wp2_with (go_at_call 45;((with_reducible refine(str_any (fun s=>small s=true) g A n cap ⟨wr.heap.size,0,none⟩ 7 7 (by omega) (by omega) _ (new_strs small (by decide) (by decide) hcur.lt) (hcur.alloc _)).mono ?_);rintro e w4 ⟨u,hu,rfl,hc4,hg4⟩;have hG4:=(byG_alloc hgr _).trans hg4;have hu4:u.size≤60:=of_decide_eq_true hu;clear hcur hg4 hgr hu))
   go_roundw
   case rel=>exact⟨k-1,_,by go_num,rfl,by omega,by rw [ByteArray.size_append];omega,hc4,hG4⟩
   case measure=>simp [intOf];omega
  ·go_wp2
   go_ret
   exact⟨v,by omega,rfl,hcur,hgr⟩
end
section
open Go.RowKit NumP

theorem OwnTy.setOff {B b j:Nat}{w:World}{v:TyV}{t:Ty}{u:Value}(h:OwnTy B w v t)(hb:¬v.own b):OwnTy B (w.setCell ⟨b,j,none⟩ u) v t:=
 h.frame fun q hq=>Below.heap_setCell w _ u q (fun e=>by have e':q=b:=e;subst e';exact hb hq)
theorem grown_at6 {w1 w2:World}{k j:Nat}{o:Obj}(hg:w1.grownBy w2 (some k))(h:w1.heap[j]? =some o)(hk:k≠j):w2.heap[j]? =some o:=(hg.block j (Array.getElem?_eq_some_iff.1 h).1 (fun e=>hk (Option.some.inj e).symm)).trans h
theorem grown_set6 (w:World)(b o:Nat)(v:Value):w.grownBy (w.setCell ⟨b,o,none⟩ v) (some b):=byG_set (byG_refl w (some b)) _ _
theorem run_load6 {W:World}{b:Nat}{k:Int}{vr vn:Value}{pt ph:ByteArray}(h:TyBox W b k vr vn pt ph):(loadVar 27 ⟨b,0,none⟩).run Tryz.prog W=.ok (.agg #[.int .i64 k,vr,vn,.string pt,.string ph]) W:=
 run_loadVar_row W b _ 27 _ (0,0) _ h Tryz.underlying27 rfl (by kernel_rfl)
theorem full6 {W:World}{b:Nat}{k:Int}{vr vn:Value}{pt ph:ByteArray}(h:TyBox W b k vr vn pt ph)(k':Int)(vr' vn':Value)(pt' ph':ByteArray):TyBox (((((W.setCell ⟨b,0,none⟩ (.int .i64 k')).setCell ⟨b,1,none⟩ vr').setCell ⟨b,2,none⟩ vn').setCell ⟨b,3,none⟩ (.string pt')).setCell ⟨b,4,none⟩ (.string ph')) b k' vr' vn' pt' ph':=by
 have h0:=set5 h 0 (.int .i64 k')
 have h1:=set5 h0 1 vr'
 have h2:=set5 h1 2 vn'
 have h3:=set5 h2 3 (.string pt')
 exact set5 h3 4 (.string ph')
theorem results_d6 {P:Program}{fn:Func}{p:Tmp}{ty:TypeId}(h:fn.results=#[.cell p ty])(tmps:Array Value)(w:World)(a:Addr)(v:Value)(hp:tmps.getD p undef=.pointer (some a))(hl:(loadVar ty a).run P w=.ok v w):
  (results fn tmps).run P w=.ok v w:=by
 have hp':tmps[p]?.getD undef=.pointer (some a):=by simpa using hp
 simp only [results,h]
 simp [Sem.run_bind,Result.andThen,hp',asAddr,hl]
def DrSz (t:Ty):Prop:=t.rg.length≤3∧t.nm.length≤4∧(∀s∈t.nm,s.size≤60)∧t.pt.size≤600∧t.ph.size≤60
structure Z6 (W0:World) (g:Nat) (A:Option Addr) (n cap:Nat) (w:World):Prop where
 C:Cur w g A n cap
 G:W0.grownBy w (some g)
 gl:g<W0.heap.size
 hA:0<n→∀a,A=some a→a.block<W0.heap.size
 Z:TyBox w W0.heap.size 0 (.slice none 0 0) (.slice none 0 0) ⟨#[]⟩ ⟨#[]⟩
section
variable {W0 w1 w2:World} {g n cap:Nat} {A:Option Addr}
theorem Z6.start (hc:Cur W0 g A n cap)(hA:0<n→∀a,A=some a→a.block<W0.heap.size):Z6 W0 g A n cap (W0.alloc (.cells #[.int .i64 0,.slice none 0 0,.slice none 0 0,.string ⟨#[]⟩,.string ⟨#[]⟩] 27)):=
 ⟨hc.alloc _,byG_alloc (byG_refl _ _) _,hc.lt,hA,heap_alloc_new' _ _ rfl⟩
theorem Z6.step (h:Z6 W0 g A n cap w1)(hC:Cur w2 g A n cap)(hG:w1.grownBy w2 (some g)):Z6 W0 g A n cap w2:=
 ⟨hC,h.G.trans hG,h.gl,h.hA,grown_at6 hG h.Z (Nat.ne_of_lt h.gl)⟩
theorem Z6.below (h:Z6 W0 g A n cap w1)(hb:Below w1.heap.size w1 w2):Z6 W0 g A n cap w2:=h.step (h.C.below hb) (byG_below hb _)
theorem Z6.lt (h:Z6 W0 g A n cap w1):W0.heap.size<w1.heap.size:=h.Z.lt
theorem Z6.hA1 (h:Z6 W0 g A n cap w1):0<n→∀a,A=some a→a.block<w1.heap.size:=fun hn a ha=>by have:=h.hA hn a ha;have:=h.lt;omega
theorem Z6.far {k:Nat}(h:Z6 W0 g A n cap w1)(hg:w1.grownBy w2 (some k))(hk:W0.heap.size<k):Z6 W0 g A n cap w2:=by
 have hb:=h.gl
 exact⟨h.C.grown hg (by omega) (fun hn a ha=>by have:=h.hA hn a ha;omega),byG_past h.G hg (by omega),hb,h.hA,grown_at6 hg h.Z (by omega)⟩
theorem Z6.set (h:Z6 W0 g A n cap w1){b:Nat}(hb:W0.heap.size<b)(j:Nat)(u:Value):Z6 W0 g A n cap (w1.setCell ⟨b,j,none⟩ u):=h.far (grown_set6 w1 b j u) hb
theorem Z6.done (h:Z6 W0 g A n cap w1){v:TyV}{t:Ty}(hO:OwnTy (W0.heap.size+1) w1 v t)(u0 u1 u2 u3 u4:Value):
  OwnTy W0.heap.size (((((w1.setCell ⟨W0.heap.size,0,none⟩ u0).setCell ⟨W0.heap.size,1,none⟩ u1).setCell ⟨W0.heap.size,2,none⟩ u2).setCell ⟨W0.heap.size,3,none⟩ u3).setCell ⟨W0.heap.size,4,none⟩ u4) v t∧
  Cur (((((w1.setCell ⟨W0.heap.size,0,none⟩ u0).setCell ⟨W0.heap.size,1,none⟩ u1).setCell ⟨W0.heap.size,2,none⟩ u2).setCell ⟨W0.heap.size,3,none⟩ u3).setCell ⟨W0.heap.size,4,none⟩ u4) g A n cap∧
  W0.grownBy (((((w1.setCell ⟨W0.heap.size,0,none⟩ u0).setCell ⟨W0.heap.size,1,none⟩ u1).setCell ⟨W0.heap.size,2,none⟩ u2).setCell ⟨W0.heap.size,3,none⟩ u3).setCell ⟨W0.heap.size,4,none⟩ u4) (some g):=by
 have hb:=h.gl
 have hA:0<n→∀a,A=some a→a.block≠W0.heap.size:=fun hn a ha=>by have:=h.hA hn a ha;omega
 have st:∀ {w:World} (j:Nat) (u:Value),Cur w g A n cap∧W0.grownBy w (some g)→Cur (w.setCell ⟨W0.heap.size,j,none⟩ u) g A n cap∧W0.grownBy (w.setCell ⟨W0.heap.size,j,none⟩ u) (some g):=
  fun j u hh=>⟨hh.1.grown (grown_set6 _ _ _ _) (by omega) hA,byG_past hh.2 (grown_set6 _ _ _ _) (Nat.le_refl _)⟩
 exact⟨(hO.set5 (by omega)).mono (by omega),st 4 u4 (st 3 u3 (st 2 u2 (st 1 u1 (st 0 u0 ⟨h.C,h.G⟩))))⟩
theorem OwnTy.step6 {B:Nat}{v:TyV}{t:Ty}(h:OwnTy B w1 v t)(hg:w1.grownBy w2 (some g))(hB:g<B):OwnTy B w2 v t:=
 h.frame fun q hq=>hg.block q (h.lt hq).2 (fun e=>by have:=Option.some.inj e;have:=(h.lt hq).1;omega)
end
structure X6 (W0:World) (g:Nat) (A:Option Addr) (n cap pb:Nat) (v:TyV) (t:Ty) (w:World):Prop where
 R:Z6 W0 g A n cap w
 X:TyBox w pb v.k v.vr v.vn v.pt v.ph
 pl:W0.heap.size<pb
 O:OwnTy (W0.heap.size+1) w v t
 np:¬v.own pb
section
variable {W0 w1 w2:World} {g n cap pb:Nat} {A:Option Addr} {v:TyV} {t:Ty}
theorem X6.step (h:X6 W0 g A n cap pb v t w1)(hC:Cur w2 g A n cap)(hG:w1.grownBy w2 (some g)):X6 W0 g A n cap pb v t w2:=by
 have h1:=h.R.gl
 have h2:=h.pl
 exact⟨h.R.step hC hG,grown_at6 hG h.X (by omega),h2,h.O.step6 hG (by omega),h.np⟩
theorem X6.below (h:X6 W0 g A n cap pb v t w1)(hb:Below w1.heap.size w1 w2):X6 W0 g A n cap pb v t w2:=h.step (h.R.C.below hb) (byG_below hb _)
theorem X6.put {v':TyV}{t':Ty}(h:X6 W0 g A n cap pb v t w1)(hO:OwnTy (W0.heap.size+1) w1 v' t')(hn:¬v'.own pb)(j:Nat)(u:Value)(hX:#[.int .i64 v.k,v.vr,v.vn,.string v.pt,.string v.ph].setIfInBounds j u=#[.int .i64 v'.k,v'.vr,v'.vn,.string v'.pt,.string v'.ph]):X6 W0 g A n cap pb v' t' (w1.setCell ⟨pb,j,none⟩ u):=
 ⟨h.R.set h.pl j u,by have h9:=set5 h.X j u;rw [hX]at h9;exact h9,h.pl,hO.setOff hn,hn⟩
end
def TyDr (W0:World)(g:Nat)(A:Option Addr)(n cap:Nat)(e:Ending)(w':World):Prop:=
 ∃(v:TyV) (t:Ty),e=.returned v.val∧OwnTy W0.heap.size w' v t∧Hid (DrSz t)∧Cur w' g A n cap∧W0.grownBy w' (some g)
theorem rowN_new (w:World)(B:Nat)(hB:B≤w.heap.size)(m:Nat)(hm:1≤m)(hm':m≤3):∃L:List ByteArray,L.length=m∧(∀s∈L,s.size≤60)∧Row B (w.alloc (.cells #[.string ⟨#[97]⟩,.string ⟨#[108,111]⟩,.string ⟨#[101,116,104,48]⟩] 9)) (.slice (some ⟨w.heap.size,0,none⟩) m 3) L:=by
 rcases(show m=1∨m=2∨m=3 by omega)with rfl|rfl|rfl
 ·exact⟨[⟨#[97]⟩],rfl,by decide,⟨rfl,.inr ⟨w.heap.size,3,_,rfl,hB,heap_alloc_new w _,by simp,by unfold maxLen;omega,rfl,rfl⟩⟩⟩
 ·exact⟨[⟨#[97]⟩,⟨#[108,111]⟩],rfl,by decide,⟨rfl,.inr ⟨w.heap.size,3,_,rfl,hB,heap_alloc_new w _,by simp,by unfold maxLen;omega,rfl,rfl⟩⟩⟩
 ·exact⟨[⟨#[97]⟩,⟨#[108,111]⟩,⟨#[101,116,104,48]⟩],rfl,by decide,⟨rfl,.inr ⟨w.heap.size,3,_,rfl,hB,heap_alloc_new w _,by simp,by unfold maxLen;omega,rfl,rfl⟩⟩⟩
theorem ownTy_of {B:Nat}{w:World}{k:Int}{vr vn:Value}{rg:List Rg}{nm:List ByteArray}{pt ph:ByteArray}(h1:RowG B w vr rg)(h2:Row B w vn nm)(hne:∀j,vr.ownBlock=some j→vn.ownBlock≠some j):OwnTy B w ⟨k,vr,vn,pt,ph⟩ ⟨k,rg,nm,pt,ph⟩:=⟨rfl,h1,h2,rfl,rfl,hne⟩
theorem value6_any (g:Nat)(A:Option Addr)(n cap:Nat)(w:World)(hc:Cur w g A n cap):
  Calls Tryz.prog 18 #[.pointer (some ⟨g,0,none⟩)] w (SzOut5 400 w g A n cap):=by
 have HC:=hid hc
 go_enter Tryz.func18,Tryz.ntmps18
 go_wp2_with fail
 refine(below_any g A n cap 4 (by omega) _ hc).mono ?_
 rintro e w1 ⟨x,hx0,-,hx2,rfl,hc1,G1⟩
 have hx3:=hx2 (by omega)
 clear hx2 hc
 rcases(show x=0∨x=1∨x=2∨x=3 by omega)with rfl|rfl|rfl|rfl
 ·clear hx0 hx3
  go_wp2_with fail
  refine(form_any g A n cap _ hc1).mono ?_
  rintro e w2 ⟨v,hv,rfl,hc2,hg2⟩
  have hv':v.size≤60:=of_decide_eq_true hv
  have G2:=G1.trans hg2
  go_wp2
  go_ret
  exact⟨v,by omega,rfl,hc2,G2⟩
 ·clear hx0 hx3
  go_wp2_with fail
  refine(word5_any g A n cap _ hc1).mono ?_
  rintro e w2 ⟨v,hv,rfl,hc2,hg2⟩
  have G2:=G1.trans hg2
  go_wp2
  go_ret
  exact⟨v,by omega,rfl,hc2,G2⟩
 ·clear hx0 hx3
  go_wp2_with fail
  refine(str_any (fun s=>small s=true) g A n cap ⟨w1.heap.size,0,none⟩ 9 9 (by omega) (by omega) _ (new_strs small (by decide) (by decide) hc1.lt) (hc1.alloc _)).mono ?_
  rintro e w2 ⟨v,hv,rfl,hc2,hg2⟩
  have hv':v.size≤60:=of_decide_eq_true hv
  have G2:=(byG_alloc G1 _).trans hg2
  go_wp2
  go_ret
  exact⟨v,by omega,rfl,hc2,G2⟩
 ·clear hx0 hx3
  go_wp2_with fail
  refine(text_any g A n cap _ hc1).mono ?_
  rintro e w2 ⟨v,hv,rfl,hc2,hg2⟩
  have hv':v.size≤60:=of_decide_eq_true hv
  have G2:=G1.trans hg2
  go_wp2
  go_ret
  exact⟨v,by omega,rfl,hc2,G2⟩
theorem draw6_any (g:Nat)(A:Option Addr)(n cap:Nat)(w:World)(hc:Cur w g A n cap)(hA:0<n→∀a,A=some a→a.block<w.heap.size):
  Calls Tryz.prog 36 #[.pointer (some ⟨g,0,none⟩)] w fun e w'=>TyDr w g A n cap e w':=by
 have HZ0:=hid (Z6.start hc hA)
 clear hc hA
 go_enter Tryz.func36,Tryz.ntmps36
 go_wp2_with fail
 refine(below_any g A n cap 6 (by omega) _ HZ0.out.C).mono ?_
 rintro e w1 ⟨x,hx0,-,hx2,rfl,hc1,G1⟩
 have hx3:=hx2 (by omega)
 have HZ1:=hid (HZ0.out.step hc1 G1)
 clear hx2 hc1 G1 HZ0
 have hl1:=HZ1.out.lt
 rcases(show x=0∨x=1∨x=2∨x=3∨x=4∨x=5 by omega)with rfl|rfl|rfl|rfl|rfl|rfl
 ·-- <<c0
  clear hx0 hx3
  go_wp2_with fail
  refine(rngs_any g A n cap _ HZ1.out.C HZ1.out.hA1).mono ?_
  rintro e w2 ⟨v,L,rfl,hr,-,hl,hc2,hg2⟩
  obtain⟨Av,mv,cv,rfl⟩:∃A n c,v=.slice A n c:=by obtain⟨A,c,hv,_⟩:=RowR.hasG hr;exact⟨A,_,c,hv⟩
  have HZ2:=hid (HZ1.out.step hc2 hg2)
  have HO:=hid (ownTy_of (k:=1) (pt:=⟨#[]⟩) (ph:=⟨#[]⟩) (RowR.mono hr hl1) (row_nil (w.heap.size+1) w2) (fun j _ h=>by cases h))
  have HSZ:Hid (DrSz ⟨1,L,[],⟨#[]⟩,⟨#[]⟩⟩):=hid ⟨hl,Nat.zero_le _,(fun s h=>by cases h),Nat.zero_le _,Nat.zero_le _⟩
  clear hr hl hc2 hg2 HZ1
  obtain⟨⟨y0,y1,y2,y3,y4⟩,k0,k1,k2,k3,k4⟩:=five HZ2.out.Z
  have hl2:=HZ2.out.lt
  go_wp2
  refine bodyPost_ret (results_d6 rfl _ _ ⟨w.heap.size,0,none⟩ _ rfl (run_load6 (full6 HZ2.out.Z _ _ _ _ _))) rfl ?_
  exact⟨⟨1,.slice Av mv cv,.slice none 0 0,⟨#[]⟩,⟨#[]⟩⟩,_,rfl,(HZ2.out.done HO.out _ _ _ _ _).1,HSZ,(HZ2.out.done HO.out _ _ _ _ _).2⟩
 ·skip
  clear hx0 hx3
  have hb1:=below_al (Below.refl w1.heap.size w1) (.cells #[.int .i64 2,.slice none 0 0,.slice none 0 0,.string ⟨#[]⟩,.string ⟨#[]⟩] 27)
  have HX1:Hid (X6 w g A n cap w1.heap.size ⟨2,.slice none 0 0,.slice none 0 0,⟨#[]⟩,⟨#[]⟩⟩ ⟨2,[],[],⟨#[]⟩,⟨#[]⟩⟩ (w1.alloc (.cells #[.int .i64 2,.slice none 0 0,.slice none 0 0,.string ⟨#[]⟩,.string ⟨#[]⟩] 27))):=hid ⟨HZ1.out.below hb1,heap_alloc_new' _ _ rfl,hl1,ownTy_of (rowG_nil _ _) (row_nil _ _) (fun j _ h=>by cases h),fun h=>by rcases h with h|h<;>cases h⟩
  clear hb1 HZ1
  go_wp2_with fail
  refine(once_any g A n cap 2 (by omega) _ HX1.out.R.C).mono ?_
  rintro e w2 ⟨b,rfl,hc2,hg2⟩
  have HX2:=hid (HX1.out.step hc2 hg2)
  clear hc2 hg2 HX1
  obtain⟨pb,hpb⟩:∃pb,pb=w1.heap.size:=⟨_,rfl⟩
  rw [←hpb]at HX2 hl1 ⊢
  clear hpb
  have hpb2:=HX2.out.X.lt
  obtain⟨⟨z0,z1,z2,z3,z4⟩,j0,j1,j2,j3,j4⟩:=five HX2.out.X
  cases b
  ·have HX:=HX2
   clear HX2
   go_wp2_with fail
   clear z0 z1 z2 z3 z4 j0 j1 j2 j3 j4
   refine(once_any g A n cap 2 (by omega) _ HX.out.R.C).mono ?_
   rintro e w7 ⟨b2,rfl,hc7,hg7⟩
   have HX7:=hid (HX.out.step hc7 hg7)
   clear hc7 hg7 HX
   cases b2
   ·have hlp:=HX7.out.X.lt
    have hlq:=HX7.out.pl
    have HZ9:=hid HX7.out.R
    have HO9:=hid HX7.out.O
    have HSZ:Hid (DrSz ⟨2,[],[],⟨#[]⟩,⟨#[]⟩⟩):=hid ⟨Nat.zero_le _,Nat.zero_le _,(fun s h=>by cases h),Nat.zero_le _,Nat.zero_le _⟩
    obtain⟨⟨z0,z1,z2,z3,z4⟩,j0,j1,j2,j3,j4⟩:=five HX7.out.X
    clear HX7
    obtain⟨⟨y0,y1,y2,y3,y4⟩,k0,k1,k2,k3,k4⟩:=five HZ9.out.Z
    have hlz:=HZ9.out.lt
    go_wp2
    refine bodyPost_ret (results_d6 rfl _ _ ⟨w.heap.size,0,none⟩ _ rfl (run_load6 (full6 HZ9.out.Z _ _ _ _ _))) rfl ?_
    exact⟨⟨2,.slice none 0 0,.slice none 0 0,⟨#[]⟩,⟨#[]⟩⟩,_,rfl,(HZ9.out.done HO9.out _ _ _ _ _).1,HSZ,(HZ9.out.done HO9.out _ _ _ _ _).2⟩
   ·obtain⟨⟨z0,z1,z2,z3,z4⟩,j0,j1,j2,j3,j4⟩:=five HX7.out.X
    have hpb7:=HX7.out.X.lt
    go_wp2_with fail
    refine(draw5_1 g A n cap _ HX7.out.R.C).mono ?_
    rintro e w8 ⟨pt,hpt,rfl,hc8,hg8⟩
    have HX8:=hid (HX7.out.step hc8 hg8)
    have hpt6:pt.size≤600:=Nat.le_trans hpt (by omega)
    have HX9:=hid (HX8.out.put (v':=⟨2,.slice none 0 0,.slice none 0 0,pt,⟨#[]⟩⟩) (t':=⟨2,[],[],pt,⟨#[]⟩⟩) (ownTy_of HX8.out.O.rg HX8.out.O.nm HX8.out.O.ne) HX8.out.np 3 (.string pt) rfl)
    clear z0 z1 z2 z3 z4 j0 j1 j2 j3 j4
    obtain⟨⟨z0,z1,z2,z3,z4⟩,j0,j1,j2,j3,j4⟩:=five HX8.out.X
    have hpb8:=HX8.out.X.lt
    clear hc8 hg8 HX7
    have hlp:=HX9.out.X.lt
    have hlq:=HX9.out.pl
    have HZ9:=hid HX9.out.R
    have HO9:=hid HX9.out.O
    have HSZ:Hid (DrSz ⟨2,[],[],pt,⟨#[]⟩⟩):=hid ⟨Nat.zero_le _,Nat.zero_le _,(fun s h=>by cases h),hpt6,Nat.zero_le _⟩
    obtain⟨⟨z0,z1,z2,z3,z4⟩,j0,j1,j2,j3,j4⟩:=five HX9.out.X
    clear HX9
    obtain⟨⟨y0,y1,y2,y3,y4⟩,k0,k1,k2,k3,k4⟩:=five HZ9.out.Z
    have hlz:=HZ9.out.lt
    go_wp2
    refine bodyPost_ret (results_d6 rfl _ _ ⟨w.heap.size,0,none⟩ _ rfl (run_load6 (full6 HZ9.out.Z _ _ _ _ _))) rfl ?_
    exact⟨⟨2,.slice none 0 0,.slice none 0 0,pt,⟨#[]⟩⟩,_,rfl,(HZ9.out.done HO9.out _ _ _ _ _).1,HSZ,(HZ9.out.done HO9.out _ _ _ _ _).2⟩
  ·go_wp2_with fail
   refine(below_any g A n cap 3 (by omega) _ HX2.out.R.C).mono ?_
   rintro e w3 ⟨lo,hlo0,-,hlo2,rfl,hc3,hg3⟩
   have hlo3:=hlo2 (by omega)
   have HX3:=hid (HX2.out.step hc3 hg3)
   clear hlo2 hc3 hg3 HX2
   go_wp2_with fail
   refine(below_any g A n cap 9 (by omega) _ HX3.out.R.C).mono ?_
   rintro e w4 ⟨hi,hhi0,-,hhi2,rfl,hc4,hg4⟩
   have hhi3:=hhi2 (by omega)
   have HX4:=hid (HX3.out.step hc4 hg4)
   clear hhi2 hc4 hg4 HX3
   have hpb4:=HX4.out.X.lt
   have hb5:=below_al (Below.refl w4.heap.size w4) (.cells #[.int .i64 lo,.int .i64 (3+hi)] 80)
   have HX5:=hid (HX4.out.below hb5)
   have HR5:Hid (RowG (w.heap.size+1) (w4.alloc (.cells #[.int .i64 lo,.int .i64 (3+hi)] 80)) (.slice (some ⟨w4.heap.size,0,none⟩) 1 1) [⟨lo,3+hi⟩]):=hid (rowG_box w4 ⟨lo,3+hi⟩ _ (by have:=HX4.out.R.lt;omega))
   have HX:=hid (HX5.out.put (v':=⟨2,.slice (some ⟨w4.heap.size,0,none⟩) 1 1,.slice none 0 0,⟨#[]⟩,⟨#[]⟩⟩) (t':=⟨2,[⟨lo,3+hi⟩],[],⟨#[]⟩,⟨#[]⟩⟩) (ownTy_of HR5.out (row_nil _ _) (fun j _ h=>by cases h)) (fun h=>h.elim (fun h=>by have h9:w4.heap.size=pb:=Option.some.inj h;omega) (fun h=>by cases h)) 1 (.slice (some ⟨w4.heap.size,0,none⟩) 1 1) rfl)
   rw [World.setCell_alloc_past _ pb 1 _ hpb4]at HX
   clear z0 z1 z2 z3 z4 j0 j1 j2 j3 j4 hb5
   obtain⟨⟨z0,z1,z2,z3,z4⟩,j0,j1,j2,j3,j4⟩:=five HX5.out.X
   clear HX4
   go_wp2_with fail
   clear z0 z1 z2 z3 z4 j0 j1 j2 j3 j4 HX5 HR5
   refine(once_any g A n cap 2 (by omega) _ HX.out.R.C).mono ?_
   rintro e w7 ⟨b2,rfl,hc7,hg7⟩
   have HX7:=hid (HX.out.step hc7 hg7)
   clear hc7 hg7 HX
   cases b2
   ·have hlp:=HX7.out.X.lt
    have hlq:=HX7.out.pl
    have HZ9:=hid HX7.out.R
    have HO9:=hid HX7.out.O
    have HSZ:Hid (DrSz ⟨2,[⟨lo,3+hi⟩],[],⟨#[]⟩,⟨#[]⟩⟩):=hid ⟨(show 1≤3 by omega),Nat.zero_le _,(fun s h=>by cases h),Nat.zero_le _,Nat.zero_le _⟩
    obtain⟨⟨z0,z1,z2,z3,z4⟩,j0,j1,j2,j3,j4⟩:=five HX7.out.X
    clear HX7
    obtain⟨⟨y0,y1,y2,y3,y4⟩,k0,k1,k2,k3,k4⟩:=five HZ9.out.Z
    have hlz:=HZ9.out.lt
    go_wp2
    refine bodyPost_ret (results_d6 rfl _ _ ⟨w.heap.size,0,none⟩ _ rfl (run_load6 (full6 HZ9.out.Z _ _ _ _ _))) rfl ?_
    exact⟨⟨2,.slice (some ⟨w4.heap.size,0,none⟩) 1 1,.slice none 0 0,⟨#[]⟩,⟨#[]⟩⟩,_,rfl,(HZ9.out.done HO9.out _ _ _ _ _).1,HSZ,(HZ9.out.done HO9.out _ _ _ _ _).2⟩
   ·obtain⟨⟨z0,z1,z2,z3,z4⟩,j0,j1,j2,j3,j4⟩:=five HX7.out.X
    have hpb7:=HX7.out.X.lt
    go_wp2_with fail
    refine(draw5_1 g A n cap _ HX7.out.R.C).mono ?_
    rintro e w8 ⟨pt,hpt,rfl,hc8,hg8⟩
    have HX8:=hid (HX7.out.step hc8 hg8)
    have hpt6:pt.size≤600:=Nat.le_trans hpt (by omega)
    have HX9:=hid (HX8.out.put (v':=⟨2,.slice (some ⟨w4.heap.size,0,none⟩) 1 1,.slice none 0 0,pt,⟨#[]⟩⟩) (t':=⟨2,[⟨lo,3+hi⟩],[],pt,⟨#[]⟩⟩) (ownTy_of HX8.out.O.rg HX8.out.O.nm HX8.out.O.ne) HX8.out.np 3 (.string pt) rfl)
    clear z0 z1 z2 z3 z4 j0 j1 j2 j3 j4
    obtain⟨⟨z0,z1,z2,z3,z4⟩,j0,j1,j2,j3,j4⟩:=five HX8.out.X
    have hpb8:=HX8.out.X.lt
    clear hc8 hg8 HX7
    have hlp:=HX9.out.X.lt
    have hlq:=HX9.out.pl
    have HZ9:=hid HX9.out.R
    have HO9:=hid HX9.out.O
    have HSZ:Hid (DrSz ⟨2,[⟨lo,3+hi⟩],[],pt,⟨#[]⟩⟩):=hid ⟨(show 1≤3 by omega),Nat.zero_le _,(fun s h=>by cases h),hpt6,Nat.zero_le _⟩
    obtain⟨⟨z0,z1,z2,z3,z4⟩,j0,j1,j2,j3,j4⟩:=five HX9.out.X
    clear HX9
    obtain⟨⟨y0,y1,y2,y3,y4⟩,k0,k1,k2,k3,k4⟩:=five HZ9.out.Z
    have hlz:=HZ9.out.lt
    go_wp2
    refine bodyPost_ret (results_d6 rfl _ _ ⟨w.heap.size,0,none⟩ _ rfl (run_load6 (full6 HZ9.out.Z _ _ _ _ _))) rfl ?_
    exact⟨⟨2,.slice (some ⟨w4.heap.size,0,none⟩) 1 1,.slice none 0 0,pt,⟨#[]⟩⟩,_,rfl,(HZ9.out.done HO9.out _ _ _ _ _).1,HSZ,(HZ9.out.done HO9.out _ _ _ _ _).2⟩
 ·skip
  clear hx0 hx3
  have HO:=hid (ownTy_of (k:=3) (pt:=⟨#[]⟩) (ph:=⟨#[]⟩) (rowG_nil (w.heap.size+1) w1) (row_nil (w.heap.size+1) w1) (fun j _ h=>by cases h))
  have HSZ:Hid (DrSz ⟨3,[],[],⟨#[]⟩,⟨#[]⟩⟩):=hid ⟨Nat.zero_le _,Nat.zero_le _,(fun s h=>by cases h),Nat.zero_le _,(by decide)⟩
  obtain⟨⟨y0,y1,y2,y3,y4⟩,k0,k1,k2,k3,k4⟩:=five HZ1.out.Z
  have hlz:=HZ1.out.lt
  go_wp2
  refine bodyPost_ret (results_d6 rfl _ _ ⟨w.heap.size,0,none⟩ _ rfl (run_load6 (full6 HZ1.out.Z _ _ _ _ _))) rfl ?_
  exact⟨⟨3,.slice none 0 0,.slice none 0 0,⟨#[]⟩,⟨#[]⟩⟩,_,rfl,(HZ1.out.done HO.out _ _ _ _ _).1,HSZ,(HZ1.out.done HO.out _ _ _ _ _).2⟩
 ·skip
  clear hx0 hx3
  have hb1:=below_al (Below.refl w1.heap.size w1) (.cells #[.string ⟨#[97]⟩,.string ⟨#[108,111]⟩,.string ⟨#[101,116,104,48]⟩] 9)
  have HZ1':=hid (HZ1.out.below hb1)
  go_wp2_with fail
  refine(below_any g A n cap 3 (by omega) _ HZ1'.out.C).mono ?_
  rintro e w2 ⟨y,hy0,-,hy2,rfl,hc2,hg2⟩
  have hy3:=hy2 (by omega)
  have HZ2:=hid (HZ1'.out.step hc2 hg2)
  have HG2:=hid hg2
  have hgl:=HZ1.out.gl
  clear hy2 hc2 hg2 hb1 HZ1 HZ1'
  rcases(show y=0∨y=1∨y=2 by omega)with rfl|rfl|rfl
  ·obtain⟨L,hL,hs,hrow⟩:=rowN_new w1 (w.heap.size+1) hl1 1 (by omega) (by omega)
   have hrow2:=row_frame hrow (w':=w2) fun b hb=>HG2.out.block b (hrow.lt hb).2 (fun e=>by have:=Option.some.inj e;have:=(hrow.lt hb).1;omega)
   have HO:=hid (ownTy_of (k:=4) (pt:=⟨#[]⟩) (ph:=⟨#[]⟩) (rowG_nil (w.heap.size+1) w2) hrow2 (fun j h=>by cases h))
   have HSZ:Hid (DrSz ⟨4,[],L,⟨#[]⟩,⟨#[]⟩⟩):=hid ⟨Nat.zero_le _,(show L.length≤4 by omega),hs,Nat.zero_le _,Nat.zero_le _⟩
   clear hL hs hrow hrow2 hy0 hy3 HG2
   obtain⟨⟨y0,y1,y2,y3,y4⟩,k0,k1,k2,k3,k4⟩:=five HZ2.out.Z
   have hlz:=HZ2.out.lt
   go_wp2
   refine bodyPost_ret (results_d6 rfl _ _ ⟨w.heap.size,0,none⟩ _ rfl (run_load6 (full6 HZ2.out.Z _ _ _ _ _))) rfl ?_
   exact⟨⟨4,.slice none 0 0,.slice (some ⟨w1.heap.size,0,none⟩) 1 3,⟨#[]⟩,⟨#[]⟩⟩,_,rfl,(HZ2.out.done HO.out _ _ _ _ _).1,HSZ,(HZ2.out.done HO.out _ _ _ _ _).2⟩
  ·obtain⟨L,hL,hs,hrow⟩:=rowN_new w1 (w.heap.size+1) hl1 2 (by omega) (by omega)
   have hrow2:=row_frame hrow (w':=w2) fun b hb=>HG2.out.block b (hrow.lt hb).2 (fun e=>by have:=Option.some.inj e;have:=(hrow.lt hb).1;omega)
   have HO:=hid (ownTy_of (k:=4) (pt:=⟨#[]⟩) (ph:=⟨#[]⟩) (rowG_nil (w.heap.size+1) w2) hrow2 (fun j h=>by cases h))
   have HSZ:Hid (DrSz ⟨4,[],L,⟨#[]⟩,⟨#[]⟩⟩):=hid ⟨Nat.zero_le _,(show L.length≤4 by omega),hs,Nat.zero_le _,Nat.zero_le _⟩
   clear hL hs hrow hrow2 hy0 hy3 HG2
   obtain⟨⟨y0,y1,y2,y3,y4⟩,k0,k1,k2,k3,k4⟩:=five HZ2.out.Z
   have hlz:=HZ2.out.lt
   go_wp2
   refine bodyPost_ret (results_d6 rfl _ _ ⟨w.heap.size,0,none⟩ _ rfl (run_load6 (full6 HZ2.out.Z _ _ _ _ _))) rfl ?_
   exact⟨⟨4,.slice none 0 0,.slice (some ⟨w1.heap.size,0,none⟩) 2 3,⟨#[]⟩,⟨#[]⟩⟩,_,rfl,(HZ2.out.done HO.out _ _ _ _ _).1,HSZ,(HZ2.out.done HO.out _ _ _ _ _).2⟩
  ·obtain⟨L,hL,hs,hrow⟩:=rowN_new w1 (w.heap.size+1) hl1 3 (by omega) (by omega)
   have hrow2:=row_frame hrow (w':=w2) fun b hb=>HG2.out.block b (hrow.lt hb).2 (fun e=>by have:=Option.some.inj e;have:=(hrow.lt hb).1;omega)
   have HO:=hid (ownTy_of (k:=4) (pt:=⟨#[]⟩) (ph:=⟨#[]⟩) (rowG_nil (w.heap.size+1) w2) hrow2 (fun j h=>by cases h))
   have HSZ:Hid (DrSz ⟨4,[],L,⟨#[]⟩,⟨#[]⟩⟩):=hid ⟨Nat.zero_le _,(show L.length≤4 by omega),hs,Nat.zero_le _,Nat.zero_le _⟩
   clear hL hs hrow hrow2 hy0 hy3 HG2
   obtain⟨⟨y0,y1,y2,y3,y4⟩,k0,k1,k2,k3,k4⟩:=five HZ2.out.Z
   have hlz:=HZ2.out.lt
   go_wp2
   refine bodyPost_ret (results_d6 rfl _ _ ⟨w.heap.size,0,none⟩ _ rfl (run_load6 (full6 HZ2.out.Z _ _ _ _ _))) rfl ?_
   exact⟨⟨4,.slice none 0 0,.slice (some ⟨w1.heap.size,0,none⟩) 3 3,⟨#[]⟩,⟨#[]⟩⟩,_,rfl,(HZ2.out.done HO.out _ _ _ _ _).1,HSZ,(HZ2.out.done HO.out _ _ _ _ _).2⟩
 ·skip
  clear hx0 hx3
  have HO:=hid (ownTy_of (k:=5) (pt:=⟨#[]⟩) (ph:=⟨#[47,117,115,101,114,47,110,97,109,101]⟩) (rowG_nil (w.heap.size+1) w1) (row_nil (w.heap.size+1) w1) (fun j _ h=>by cases h))
  have HSZ:Hid (DrSz ⟨5,[],[],⟨#[]⟩,⟨#[47,117,115,101,114,47,110,97,109,101]⟩⟩):=hid ⟨Nat.zero_le _,Nat.zero_le _,(fun s h=>by cases h),Nat.zero_le _,(by decide)⟩
  obtain⟨⟨y0,y1,y2,y3,y4⟩,k0,k1,k2,k3,k4⟩:=five HZ1.out.Z
  have hlz:=HZ1.out.lt
  go_wp2
  refine bodyPost_ret (results_d6 rfl _ _ ⟨w.heap.size,0,none⟩ _ rfl (run_load6 (full6 HZ1.out.Z _ _ _ _ _))) rfl ?_
  exact⟨⟨5,.slice none 0 0,.slice none 0 0,⟨#[]⟩,⟨#[47,117,115,101,114,47,110,97,109,101]⟩⟩,_,rfl,(HZ1.out.done HO.out _ _ _ _ _).1,HSZ,(HZ1.out.done HO.out _ _ _ _ _).2⟩
 ·skip
  clear hx0 hx3
  have HO:=hid (ownTy_of (k:=6) (pt:=⟨#[]⟩) (ph:=⟨#[]⟩) (rowG_nil (w.heap.size+1) w1) (row_nil (w.heap.size+1) w1) (fun j _ h=>by cases h))
  have HSZ:Hid (DrSz ⟨6,[],[],⟨#[]⟩,⟨#[]⟩⟩):=hid ⟨Nat.zero_le _,Nat.zero_le _,(fun s h=>by cases h),Nat.zero_le _,(by decide)⟩
  obtain⟨⟨y0,y1,y2,y3,y4⟩,k0,k1,k2,k3,k4⟩:=five HZ1.out.Z
  have hlz:=HZ1.out.lt
  go_wp2
  refine bodyPost_ret (results_d6 rfl _ _ ⟨w.heap.size,0,none⟩ _ rfl (run_load6 (full6 HZ1.out.Z _ _ _ _ _))) rfl ?_
  exact⟨⟨6,.slice none 0 0,.slice none 0 0,⟨#[]⟩,⟨#[]⟩⟩,_,rfl,(HZ1.out.done HO.out _ _ _ _ _).1,HSZ,(HZ1.out.done HO.out _ _ _ _ _).2⟩
end
section
open Go.RowKit NumP

theorem results_t6 {P:Program}{fn:Func}{p u:Tmp}{ty:TypeId}(h:fn.results=#[.cell p ty,.tmp u])(tmps:Array Value)(w:World)(a:Addr)(v:Value)(hp:tmps.getD p undef=.pointer (some a))(hl:(loadVar ty a).run P w=.ok v w):
  (results fn tmps).run P w=.ok (.tuple #[v,tmps.getD u undef]) w:=by
 have hp':tmps[p]?.getD undef=.pointer (some a):=by simpa using hp
 simp only [results,h]
 simp [Sem.run_bind,Result.andThen,hp',asAddr,hl]
theorem rowG_set5 {B b:Nat}{w:World}{v:Value}{l:List Rg}{u0 u1 u2 u3 u4:Value}(h:RowG B w v l)(hb:b<B):RowG B (((((w.setCell ⟨b,0,none⟩ u0).setCell ⟨b,1,none⟩ u1).setCell ⟨b,2,none⟩ u2).setCell ⟨b,3,none⟩ u3).setCell ⟨b,4,none⟩ u4) v l:=by
 have st:∀ {w:World} (j:Nat) (u:Value),RowG B w v l→RowG B (w.setCell ⟨b,j,none⟩ u) v l:=fun j u h=>ownsRow_setCell_other h (a:=⟨b,j,none⟩) (fun e=>by have:=(RowR.lt h e).1;simp at this;omega) _
 exact st 4 _ (st 3 _ (st 2 _ (st 1 _ (st 0 _ h))))
abbrev boxW (w:World):World:=w.alloc (.cells #[.int .i64 0,.slice none 0 0,.slice none 0 0,.string ⟨#[]⟩,.string ⟨#[]⟩] 27)
theorem drawNT_any (A:Option Addr)(n cap:Nat)(w:World)(hs:Src w A n):
  Calls Tryz.prog 12 #[.slice A n cap] w fun e w'=>∃(v:TyV) (t:Ty) (u:Value) (r:List Rg),e=.returned (.tuple #[v.val,u])∧OwnTy w.heap.size w' v t∧DrSz t∧RowG w.heap.size w' u r∧Nrm r∧r.length≤3∧Below w.heap.size w w':=by
 have hA:0<n→∀a,A=some a→a.block<w.heap.size:=fun hn a ha=>by
  obtain⟨a',_,h1,h2,_⟩:=hs.2 0 hn
  rw [h1]at ha;cases ha;exact h2
 have HB0:=hid (below_al (Below.refl w.heap.size w) (.cells #[.int .i64 0,.slice none 0 0,.slice none 0 0,.string ⟨#[]⟩,.string ⟨#[]⟩] 27))
 have hs0:=src_below hs HB0.out
 have HZ0:Hid (TyBox (boxW w) w.heap.size 0 (.slice none 0 0) (.slice none 0 0) ⟨#[]⟩ ⟨#[]⟩):=hid (heap_alloc_new' _ _ rfl)
 go_enter Tryz.func12,Tryz.ntmps12
 go_wp2_with fail
 refine(new_any A n cap _ hs0).mono ?_
 rintro e w1 ⟨g,rfl,hg,hc,hb⟩
 have hgs:w.heap.size<g:=by have:(boxW w).heap.size≤g:=hg;simp [boxW]at this;omega
 have HZ1:=hid (TyBox.below HZ0.out hb)
 have HB1:=hid (below_step HB0.out hb)
 have hA1:0<n→∀a,A=some a→a.block<w1.heap.size:=fun hn a ha=>Nat.lt_of_lt_of_le (hA hn a ha) HB1.out.size
 have hgl:=hc.lt
 clear hs0 hs hA hb HZ0 HB0 hg
 go_wp2_with fail
 refine(draw6_any g A n cap _ hc hA1).mono ?_
 rintro e w2 ⟨⟨k,vr,vn,pt,ph⟩,t,rfl,hO,HSZ,hc2,hg2⟩
 have hA2:0<n→∀a,A=some a→a.block<w2.heap.size:=fun hn a ha=>Nat.lt_of_lt_of_le (hA1 hn a ha) hg2.size
 go_wp2_with fail
 refine(rngs_any g A n cap _ hc2 hA2).mono ?_
 rintro e w3 ⟨u,r,rfl,hr,hnr,hlr,hc3,hg3⟩
 obtain⟨A1,m1,c1,rfl⟩:∃A n c,vr=.slice A n c:=by obtain⟨A,c,hv,_⟩:=RowR.hasG hO.rg;exact⟨A,_,c,hv⟩
 obtain⟨A2,m2,c2,rfl⟩:∃A n c,vn=.slice A n c:=by obtain⟨A,c,hv,_⟩:=hO.nm.has;exact⟨A,_,c,hv⟩
 obtain⟨A3,m3,c3,rfl⟩:∃A n c,u=.slice A n c:=by obtain⟨A,c,hv,_⟩:=RowR.hasG hr;exact⟨A,_,c,hv⟩
 have hgs2:g<w2.heap.size:=hc2.lt
 have HO:=hid ((hO.step6 hg3 hgl).mono (show w.heap.size+1≤w1.heap.size by omega))
 have HR:=hid (RowR.mono hr (show w.heap.size+1≤w2.heap.size by omega))
 have HB:=hid (below_new HB1.out (Nat.le_of_lt hgs) (hg2.trans hg3))
 have HZ3:Hid (TyBox w3 w.heap.size 0 (.slice none 0 0) (.slice none 0 0) ⟨#[]⟩ ⟨#[]⟩):=hid (grown_at6 (hg2.trans hg3) HZ1.out (by omega))
 obtain⟨⟨y0,y1,y2,y3,y4⟩,k0,k1,k2,k3,k4⟩:=five HZ3.out
 have hl3:=HZ3.out.lt
 clear hO hr hg2 hg3 hc hc2 hc3 HB1 HZ1 hA1 hA2
 go_wp2
 refine bodyPost_ret (results_t6 rfl _ _ ⟨w.heap.size,0,none⟩ _ rfl (run_load6 (full6 HZ3.out _ _ _ _ _))) rfl ?_
 exact⟨⟨_,_,_,_,_⟩,t,_,r,rfl,(HO.out.set5 (by omega)).mono (by omega),HSZ.out,RowR.mono (rowG_set5 HR.out (by omega)) (by omega),hnr,hlr,below_set5 HB.out (Nat.le_refl _)⟩
theorem wpList_copy_strsS {ops:Array Oper}{rest:List Oper}{o:Oper}{a:Act}{Q:Exit→Act→World→Prop}{w:World}(hgd:o.guard=none)(s x:Operand)
  (ho:o.op=.call { callee:=.builtin .append,args:=#[s,x],argTypes:=#[25,25] })
  (b:Nat) (hs:a.eval s=.slice (some ⟨b,0,none⟩) 0 0) (hb:b=w.heap.size) (v:Value) (l:List ByteArray) (m:Nat) (hm:m=l.length) (hx:a.eval x=v) (hv:Has w v l) (hk:NilOk v) (hn:l.length≤1048576)
  (h:∀q c' w',Row w.heap.size w' (.slice (some ⟨q,0,none⟩) m c') l→Below w.heap.size w w'→wpList Tryz.prog ops Q rest (a.put o.dst (.slice (some ⟨q,0,none⟩) m c')) w'):
  wpList Tryz.prog ops Q (o::rest) a (w.alloc (.cells #[] 9)):=by
 obtain⟨i0,hi,hz0,hz1,hz2⟩:=info_parts infoStr
 subst hb
 have hown:(w.alloc (.cells #[] 9)).ownsRow w.heap.size 9 1 (.slice (some ⟨w.heap.size,0,none⟩) 0 0) 0 []:=⟨by simp,.inr ⟨w.heap.size,0,#[],rfl,Nat.le_refl _,heap_alloc_new w _,by simp,by simp,by simp,by simp⟩⟩
 have hb0:Below w.heap.size w (w.alloc (.cells #[] 9)):=below_al (Below.refl _ _) _
 obtain⟨A,c,rfl,hn',hc⟩:=id hv
 cases A with
 | none =>
  obtain rfl:=has_none hv
  obtain rfl:=hk _ _ rfl
  exact wpList_append_own_none hgd s x 25 ho w.heap.size 9 i0 1 Tryz.underlying25 hi _ 0 [] hs hown hx (by subst hm;exact h _ _ _ hown hb0)
 | some p =>
  refine wpList_append_own _ hgd s x 25 ho w.heap.size 9 i0 (.string ⟨#[]⟩) 1 16 Tryz.underlying25 hi hz0 hz1 hz2 rfl (by decide) _ 0 [] hs hown p l.length c (l.map Value.string) hx (by simp) (fun j u hj=>?_) (fun u hu=>by obtain⟨y,_,rfl⟩:=List.mem_map.1 hu;rfl) (by unfold maxLen;omega) (by omega) hb0.size ?_
  ·have hj':=strs_cells hc j u hj
   rw [hb0.cell (lt_of_cell hj')];exact hj'
  ·intro v' w' h2 h3 h4
   have hR:Row w.heap.size w' v' l:=by unfold Row;simpa using h2
   rcases hR.form with ⟨rfl,_⟩|⟨q,c',rfl,_,_⟩
   ·have:=(h4.1 rfl).1;cases this
   ·rw [←hm]at hR ⊢
    exact h q c' w' hR (hb0.grown h3 hb0.size (fun k hk=>by cases hk;exact Nat.le_refl _))
def DrSz5 (t:Ty):Prop:=t.rg.length≤3∧t.nm.length≤5∧(∀s∈t.nm,s.size≤60)∧t.pt.size≤600∧t.ph.size≤60
theorem dr5 {t:Ty}(h:DrSz t):DrSz5 t:=⟨h.1,Nat.le_trans h.2.1 (by omega),h.2.2⟩
def TyDr5 (W0:World)(g:Nat)(A:Option Addr)(n cap:Nat)(e:Ending)(w':World):Prop:=
 ∃(v:TyV) (t:Ty),e=.returned v.val∧OwnTy W0.heap.size w' v t∧Hid (DrSz5 t)∧Cur w' g A n cap∧W0.grownBy w' (some g)
theorem X6.far {W0 w1 w2:World}{g n cap pb k:Nat}{A:Option Addr}{v:TyV}{t:Ty}(h:X6 W0 g A n cap pb v t w1)(hg:w1.grownBy w2 (some k))(hk:W0.heap.size<k)(hp:k≠pb)(hv:¬v.own k):X6 W0 g A n cap pb v t w2:=
 ⟨h.R.far hg hk,grown_at6 hg h.X hp,h.pl,h.O.frame fun q hq=>hg.block q (h.O.lt hq).2 (fun e=>by have e':=Option.some.inj e;subst e';exact hv hq),h.np⟩
theorem any6_any (g:Nat)(A:Option Addr)(n cap:Nat)(w:World)(hc:Cur w g A n cap)(hA:0<n→∀a,A=some a→a.block<w.heap.size):
  Calls Tryz.prog 17 #[.pointer (some ⟨g,0,none⟩)] w fun e w'=>TyDr5 w g A n cap e w':=by
 have HZ0:=hid (Z6.start hc hA)
 have HDR:=hid (draw6_any g A n cap _ HZ0.out.C HZ0.out.hA1)
 clear hc hA
 go_enter Tryz.func17,Tryz.ntmps17
 go_wp2_with fail
 refine HDR.out.mono ?_
 rintro e w1 ⟨⟨k,vr,vn,pt,ph⟩,⟨tk,rg,nm,tp,th⟩,rfl,hO,HS0,hc1,hg1⟩
 obtain⟨hk,hr,hn,hp,hh,hne⟩:=hO
 dsimp only at hk hr hn hp hh hne
 subst hk hp hh
 have HS:Hid (DrSz ⟨k,rg,nm,pt,ph⟩):=HS0
 obtain⟨A1,m1,c1,rfl⟩:∃A n c,vr=.slice A n c:=by obtain⟨A,c,hv,_⟩:=RowR.hasG hr;exact⟨A,_,c,hv⟩
 obtain⟨A2,m2,c2,rfl⟩:∃A n c,vn=.slice A n c:=by obtain⟨A,c,hv,_⟩:=hn.has;exact⟨A,_,c,hv⟩
 have HZ1:=hid (HZ0.out.step hc1 hg1)
 have hl1:=HZ1.out.lt
 have hb1:=below_al (Below.refl w1.heap.size w1) (.cells #[.int .i64 k,.slice A1 m1 c1,.slice A2 m2 c2,.string pt,.string ph] 27)
 have HX1:Hid (X6 w g A n cap w1.heap.size ⟨k,.slice A1 m1 c1,.slice A2 m2 c2,pt,ph⟩ ⟨k,rg,nm,pt,ph⟩ (w1.alloc (.cells #[.int .i64 k,.slice A1 m1 c1,.slice A2 m2 c2,.string pt,.string ph] 27))):=by
  have hO:OwnTy (w.heap.size+1) w1 ⟨k,.slice A1 m1 c1,.slice A2 m2 c2,pt,ph⟩ ⟨k,rg,nm,pt,ph⟩:=ownTy_of (RowR.mono hr (by simp)) (hn.mono (by simp)) hne
  exact hid ⟨HZ1.out.below hb1,heap_alloc_new' _ _ rfl,hl1,hO.below hb1,fun h=>by have:=(hO.lt h).2;omega⟩
 clear hb1 HZ0 HZ1 HDR hc1 hg1 hr hn hne HS0
 go_wp2_with fail
 refine(below_any g A n cap 8 (by omega) _ HX1.out.R.C).mono ?_
 rintro e w2 ⟨x,hx0,-,hx2,rfl,hc2,hg2⟩
 have hx3:=hx2 (by omega)
 have HX2:=hid (HX1.out.step hc2 hg2)
 clear hx2 hc2 hg2 HX1
 obtain⟨pb,hpb⟩:∃pb,pb=w1.heap.size:=⟨_,rfl⟩
 rw [←hpb]at HX2 hl1 ⊢
 clear hpb
 have hpb2:=HX2.out.X.lt
 obtain⟨⟨z0,z1,z2,z3,z4⟩,j0,j1,j2,j3,j4⟩:=five HX2.out.X
 rcases(show x=0∨x=1∨x=2∨x=3∨4≤x by omega)with rfl|rfl|rfl|rfl|h4
 ·clear hx0 hx3
  go_wp2_with fail
  refine(below_any g A n cap 9 (by omega) _ HX2.out.R.C).mono ?_
  rintro e w4 ⟨y,hy0,-,hy2,rfl,hc4,hg4⟩
  have hy3:=hy2 (by omega)
  have HX4:=hid (HX2.out.step hc4 hg4)
  have HX5:=hid (HX4.out.put (v':=⟨y-1,.slice A1 m1 c1,.slice A2 m2 c2,pt,ph⟩) (t':=⟨y-1,rg,nm,pt,ph⟩) (ownTy_of HX4.out.O.rg HX4.out.O.nm HX4.out.O.ne) HX4.out.np 0 (.int .i64 (y-1)) rfl)
  have HSZ:Hid (DrSz5 ⟨y-1,rg,nm,pt,ph⟩):=hid (dr5 HS.out)
  clear z0 z1 z2 z3 z4 j0 j1 j2 j3 j4 hc4 hg4 hy2 HX2
  have hlp4:=HX4.out.X.lt
  obtain⟨⟨z0,z1,z2,z3,z4⟩,j0,j1,j2,j3,j4⟩:=five HX4.out.X
  clear HX4
  have hlp:=HX5.out.X.lt
  have hlq:=HX5.out.pl
  have HZ9:=hid HX5.out.R
  have HO9:=hid HX5.out.O
  obtain⟨⟨z0,z1,z2,z3,z4⟩,j0,j1,j2,j3,j4⟩:=five HX5.out.X
  obtain⟨⟨y0,y1,y2,y3,y4⟩,k0,k1,k2,k3,k4⟩:=five HZ9.out.Z
  have hlz:=HZ9.out.lt
  clear HX5
  go_wp2
  refine bodyPost_ret (results_d6 rfl _ _ ⟨w.heap.size,0,none⟩ _ rfl (run_load6 (full6 HZ9.out.Z _ _ _ _ _))) rfl ?_
  exact⟨⟨_,_,_,_,_⟩,_,rfl,(HZ9.out.done HO9.out _ _ _ _ _).1,HSZ,(HZ9.out.done HO9.out _ _ _ _ _).2⟩
 ·clear hx0 hx3
  have hb3:=below_al (Below.refl w2.heap.size w2) (.cells #[.string ⟨#[97]⟩,.string ⟨#[40]⟩,.string ⟨#[]⟩] 9)
  have HX3:=hid (HX2.out.below hb3)
  have HST:Hid (StrsAt (fun v=>small v=true) (w2.alloc (.cells #[.string ⟨#[97]⟩,.string ⟨#[40]⟩,.string ⟨#[]⟩] 9)) g ⟨w2.heap.size,0,none⟩ 3):=hid (new_strs small (by decide) (by decide) HX2.out.R.C.lt)
  clear hb3 HX2
  go_wp2_with fail
  refine(str_any (fun v=>small v=true) g A n cap ⟨w2.heap.size,0,none⟩ 3 3 (by omega) (by omega) _ HST.out HX3.out.R.C).mono ?_
  rintro e w4 ⟨s,hs,rfl,hc4,hg4⟩
  have hs6:s.size≤60:=of_decide_eq_true hs
  have HX4:=hid (HX3.out.step hc4 hg4)
  have HX5:=hid (HX4.out.put (v':=⟨k,.slice A1 m1 c1,.slice A2 m2 c2,s,ph⟩) (t':=⟨k,rg,nm,s,ph⟩) (ownTy_of HX4.out.O.rg HX4.out.O.nm HX4.out.O.ne) HX4.out.np 3 (.string s) rfl)
  have HSZ:Hid (DrSz5 ⟨k,rg,nm,s,ph⟩):=hid ⟨HS.out.1,Nat.le_trans HS.out.2.1 (by omega),HS.out.2.2.1,Nat.le_trans hs6 (by omega),HS.out.2.2.2.2⟩
  clear z0 z1 z2 z3 z4 j0 j1 j2 j3 j4 hc4 hg4 HX3 HST hs
  have hlp4:=HX4.out.X.lt
  obtain⟨⟨z0,z1,z2,z3,z4⟩,j0,j1,j2,j3,j4⟩:=five HX4.out.X
  clear HX4
  have hlp:=HX5.out.X.lt
  have hlq:=HX5.out.pl
  have HZ9:=hid HX5.out.R
  have HO9:=hid HX5.out.O
  obtain⟨⟨z0,z1,z2,z3,z4⟩,j0,j1,j2,j3,j4⟩:=five HX5.out.X
  obtain⟨⟨y0,y1,y2,y3,y4⟩,k0,k1,k2,k3,k4⟩:=five HZ9.out.Z
  have hlz:=HZ9.out.lt
  clear HX5
  go_wp2
  refine bodyPost_ret (results_d6 rfl _ _ ⟨w.heap.size,0,none⟩ _ rfl (run_load6 (full6 HZ9.out.Z _ _ _ _ _))) rfl ?_
  exact⟨⟨_,_,_,_,_⟩,_,rfl,(HZ9.out.done HO9.out _ _ _ _ _).1,HSZ,(HZ9.out.done HO9.out _ _ _ _ _).2⟩
 ·clear hx0 hx3
  have HQ:=hid (And.intro HX2.out.O.nm.has (And.intro HX2.out.O.nm.nilOk (show nm.length≤1048576 from Nat.le_trans HS.out.2.1 (by omega))))
  obtain⟨m,hm⟩:∃m,m=nm.length:=⟨_,rfl⟩
  have HM:Hid (m=nm.length):=hid hm
  have hm4:m≤4:=by rw [hm];exact HS.out.2.1
  have hlq:=HX2.out.pl
  clear hm
  go_wp2_with (first
   |(at_builtin;(refine wpList_copy_strsS rfl _ _ rfl w2.heap.size rfl rfl (.slice A2 m2 c2) nm m HM.out rfl HQ.out.1 HQ.out.2.1 HQ.out.2.2 ?_);intro q c4 w4 hrow4 hb4;have HX3:=hid (HX2.out.below hb4);have HR4:=hid hrow4;(have hq2:w2.heap.size≤q:=(hrow4.lt rfl).1);(have hs4:w2.heap.size≤w4.heap.size:=hb4.size);have HVQ:Hid (¬(⟨k,.slice A1 m1 c1,.slice A2 m2 c2,pt,ph⟩:TyV).own q):=hid (fun h=>by have:=(HX2.out.O.lt h).2;omega);(have hgq:g<w2.heap.size:=HX2.out.R.C.lt);have HRG:Hid (∀j,(Value.slice A1 m1 c1).ownBlock=some j→j<w2.heap.size):=hid (fun j hj=>(HX2.out.O.lt (.inl hj)).2);have hb5:=below_al (Below.refl w4.heap.size w4) (.cells #[.string ⟨#[97]⟩,.string ⟨#[65]⟩,.string ⟨#[108,111]⟩,.string ⟨#[98]⟩] 9);have HX4:=hid (HX3.out.below hb5);have HR4':=hid (hrow4.below hb5);have HST:Hid (StrsAt (fun v=>small v=true) (w4.alloc (.cells #[.string ⟨#[97]⟩,.string ⟨#[65]⟩,.string ⟨#[108,111]⟩,.string ⟨#[98]⟩] 9)) g ⟨w4.heap.size,0,none⟩ 4):=hid (new_strs small (by decide) (by decide) HX3.out.R.C.lt);clear hrow4 hb4 hb5)
   |(go_at_call 45;(refine(str_any (fun v=>small v=true) g A n cap ⟨w4.heap.size,0,none⟩ 4 4 (by omega) (by omega) _ HST.out HX4.out.R.C).mono ?_);rintro e w5 ⟨s,hs,rfl,hc5,hg5⟩;(have hs6:s.size≤60:=of_decide_eq_true hs);have HX5:=hid (HX4.out.step hc5 hg5);have HR5:=hid (row_frame HR4'.out (w':=w5) fun b hb=>hg5.block b (HR4'.out.lt hb).2 (fun e=>by have:=Option.some.inj e;have:=(HR4'.out.lt hb).1;omega));have HX5b:=hid (HX5.out.below (below_al (Below.refl w5.heap.size w5) (.cells #[.string s] 9)));(have hs5:w2.heap.size≤w5.heap.size:=by have:=hg5.size;simp at this;omega);clear hs hc5 hg5)
   |(at_builtin;(refine wpList_row_append rfl _ _ rfl w2.heap.size q m c4 nm rfl HR5.out s rfl (by omega) hs5 (m+1) rfl ?_);intro g' c6 w6 hrow6 hg6;have HX6:=hid (HX5b.out.far hg6 (by omega) (by omega) HVQ.out);(have hg2:w2.heap.size≤g':=(hrow6.lt rfl).1);have HX7:=hid (HX6.out.put (v':=⟨k,.slice A1 m1 c1,.slice (some ⟨g',0,none⟩) (m+1) c6,pt,ph⟩) (t':=⟨k,rg,nm++ [s],pt,ph⟩) (ownTy_of HX6.out.O.rg (hrow6.mono (by omega)) (fun j h1 h2=>by have:=HRG.out j h1;have h9:g'=j:=Option.some.inj h2;omega)) (fun h=>h.elim (fun h=>HX6.out.np (.inl h)) (fun h=>by have h9:g'=pb:=Option.some.inj h;omega)) 2 (.slice (some ⟨g',0,none⟩) (m+1) c6) rfl);clear z0 z1 z2 z3 z4 j0 j1 j2 j3 j4 hrow6 hg6;have hlp6:=HX6.out.X.lt;obtain⟨⟨z0,z1,z2,z3,z4⟩,j0,j1,j2,j3,j4⟩:=five HX6.out.X;have hlp7:=HX7.out.X.lt;obtain⟨⟨x0,x1,x2,x3,x4⟩,i0,i1,i2,i3,i4⟩:=five HX7.out.X;obtain⟨⟨y0,y1,y2,y3,y4⟩,k0,k1,k2,k3,k4⟩:=five HX7.out.R.Z;have hlz:=HX7.out.R.lt))
  have HSZ:Hid (DrSz5 ⟨k,rg,nm++ [s],pt,ph⟩):=hid ⟨HS.out.1,by show(nm++ [s]).length≤5;rw [List.length_append];exact Nat.add_le_add_right HS.out.2.1 1,(fun z hz=>(List.mem_append.1 hz).elim (fun h=>HS.out.2.2.1 z h) (fun h=>by rw [List.mem_singleton.1 h];exact hs6)),HS.out.2.2.2⟩
  refine bodyPost_ret (results_d6 rfl _ _ ⟨w.heap.size,0,none⟩ _ rfl (run_load6 (full6 HX7.out.R.Z _ _ _ _ _))) rfl ?_
  exact⟨⟨_,_,_,_,_⟩,_,rfl,(HX7.out.R.done HX7.out.O _ _ _ _ _).1,HSZ,(HX7.out.R.done HX7.out.O _ _ _ _ _).2⟩
 ·clear hx0 hx3
  have hb3:=below_al (Below.refl w2.heap.size w2) (.cells #[.string ⟨#[]⟩,.string ⟨#[120]⟩,.string ⟨#[195,169]⟩] 9)
  have HX3:=hid (HX2.out.below hb3)
  have HST:Hid (StrsAt (fun v=>small v=true) (w2.alloc (.cells #[.string ⟨#[]⟩,.string ⟨#[120]⟩,.string ⟨#[195,169]⟩] 9)) g ⟨w2.heap.size,0,none⟩ 3):=hid (new_strs small (by decide) (by decide) HX2.out.R.C.lt)
  clear hb3 HX2
  go_wp2_with fail
  refine(str_any (fun v=>small v=true) g A n cap ⟨w2.heap.size,0,none⟩ 3 3 (by omega) (by omega) _ HST.out HX3.out.R.C).mono ?_
  rintro e w4 ⟨s,hs,rfl,hc4,hg4⟩
  have hs6:s.size≤60:=of_decide_eq_true hs
  have HX4:=hid (HX3.out.step hc4 hg4)
  have HX5:=hid (HX4.out.put (v':=⟨k,.slice A1 m1 c1,.slice A2 m2 c2,pt,s⟩) (t':=⟨k,rg,nm,pt,s⟩) (ownTy_of HX4.out.O.rg HX4.out.O.nm HX4.out.O.ne) HX4.out.np 4 (.string s) rfl)
  have HSZ:Hid (DrSz5 ⟨k,rg,nm,pt,s⟩):=hid ⟨HS.out.1,Nat.le_trans HS.out.2.1 (by omega),HS.out.2.2.1,HS.out.2.2.2.1,hs6⟩
  clear z0 z1 z2 z3 z4 j0 j1 j2 j3 j4 hc4 hg4 HX3 HST hs
  have hlp4:=HX4.out.X.lt
  obtain⟨⟨z0,z1,z2,z3,z4⟩,j0,j1,j2,j3,j4⟩:=five HX4.out.X
  clear HX4
  have hlp:=HX5.out.X.lt
  have hlq:=HX5.out.pl
  have HZ9:=hid HX5.out.R
  have HO9:=hid HX5.out.O
  obtain⟨⟨z0,z1,z2,z3,z4⟩,j0,j1,j2,j3,j4⟩:=five HX5.out.X
  obtain⟨⟨y0,y1,y2,y3,y4⟩,k0,k1,k2,k3,k4⟩:=five HZ9.out.Z
  have hlz:=HZ9.out.lt
  clear HX5
  go_wp2
  refine bodyPost_ret (results_d6 rfl _ _ ⟨w.heap.size,0,none⟩ _ rfl (run_load6 (full6 HZ9.out.Z _ _ _ _ _))) rfl ?_
  exact⟨⟨_,_,_,_,_⟩,_,rfl,(HZ9.out.done HO9.out _ _ _ _ _).1,HSZ,(HZ9.out.done HO9.out _ _ _ _ _).2⟩
 ·have n0:(x==0)=false:=by simp;omega
  have n1:(x==1)=false:=by simp;omega
  have n2:(x==2)=false:=by simp;omega
  have n3:(x==3)=false:=by simp;omega
  have HSZ:Hid (DrSz5 ⟨k,rg,nm,pt,ph⟩):=hid (dr5 HS.out)
  have hlp:=HX2.out.X.lt
  have hlq:=HX2.out.pl
  have HZ9:=hid HX2.out.R
  have HO9:=hid HX2.out.O
  clear z0 z1 z2 z3 z4 j0 j1 j2 j3 j4
  obtain⟨⟨z0,z1,z2,z3,z4⟩,j0,j1,j2,j3,j4⟩:=five HX2.out.X
  obtain⟨⟨y0,y1,y2,y3,y4⟩,k0,k1,k2,k3,k4⟩:=five HZ9.out.Z
  have hlz:=HZ9.out.lt
  clear HX2
  go_wp2
  refine bodyPost_ret (results_d6 rfl _ _ ⟨w.heap.size,0,none⟩ _ rfl (run_load6 (full6 HZ9.out.Z _ _ _ _ _))) rfl ?_
  exact⟨⟨_,_,_,_,_⟩,_,rfl,(HZ9.out.done HO9.out _ _ _ _ _).1,HSZ,(HZ9.out.done HO9.out _ _ _ _ _).2⟩
theorem drawCV_any (A:Option Addr)(n cap:Nat)(w:World)(hs:Src w A n):
  Calls Tryz.prog 5 #[.slice A n cap] w fun e w'=>∃(v:TyV) (t:Ty) (s:ByteArray),e=.returned (.tuple #[v.val,.string s])∧OwnTy w.heap.size w' v t∧DrSz5 t∧s.size≤400∧Below w.heap.size w w':=by
 have hA:0<n→∀a,A=some a→a.block<w.heap.size:=fun hn a ha=>by
  obtain⟨a',_,h1,h2,_⟩:=hs.2 0 hn
  rw [h1]at ha;cases ha;exact h2
 have HB0:=hid (below_al (Below.refl w.heap.size w) (.cells #[.int .i64 0,.slice none 0 0,.slice none 0 0,.string ⟨#[]⟩,.string ⟨#[]⟩] 27))
 have hs0:=src_below hs HB0.out
 have HZ0:Hid (TyBox (boxW w) w.heap.size 0 (.slice none 0 0) (.slice none 0 0) ⟨#[]⟩ ⟨#[]⟩):=hid (heap_alloc_new' _ _ rfl)
 go_enter Tryz.func5,Tryz.ntmps5
 go_wp2_with fail
 refine(new_any A n cap _ hs0).mono ?_
 rintro e w1 ⟨g,rfl,hg,hc,hb⟩
 have hgs:w.heap.size<g:=by have:(boxW w).heap.size≤g:=hg;simp [boxW]at this;omega
 have HZ1:=hid (TyBox.below HZ0.out hb)
 have HB1:=hid (below_step HB0.out hb)
 have hA1:0<n→∀a,A=some a→a.block<w1.heap.size:=fun hn a ha=>Nat.lt_of_lt_of_le (hA hn a ha) HB1.out.size
 have hgl:=hc.lt
 clear hs0 hs hA hb HZ0 HB0 hg
 go_wp2_with fail
 refine(any6_any g A n cap _ hc hA1).mono ?_
 rintro e w2 ⟨⟨k,vr,vn,pt,ph⟩,t,rfl,hO,HSZ,hc2,hg2⟩
 go_wp2_with fail
 refine(value6_any g A n cap _ hc2).mono ?_
 rintro e w3 ⟨s,hs3,rfl,hc3,hg3⟩
 obtain⟨A1,m1,c1,rfl⟩:∃A n c,vr=.slice A n c:=by obtain⟨A,c,hv,_⟩:=RowR.hasG hO.rg;exact⟨A,_,c,hv⟩
 obtain⟨A2,m2,c2,rfl⟩:∃A n c,vn=.slice A n c:=by obtain⟨A,c,hv,_⟩:=hO.nm.has;exact⟨A,_,c,hv⟩
 have HO:=hid ((hO.step6 hg3 hgl).mono (show w.heap.size+1≤w1.heap.size by omega))
 have HB:=hid (below_new HB1.out (Nat.le_of_lt hgs) (hg2.trans hg3))
 have HZ3:Hid (TyBox w3 w.heap.size 0 (.slice none 0 0) (.slice none 0 0) ⟨#[]⟩ ⟨#[]⟩):=hid (grown_at6 (hg2.trans hg3) HZ1.out (by omega))
 obtain⟨⟨y0,y1,y2,y3,y4⟩,k0,k1,k2,k3,k4⟩:=five HZ3.out
 have hl3:=HZ3.out.lt
 clear hO hg2 hg3 hc hc2 hc3 HB1 HZ1 hA1
 go_wp2
 refine bodyPost_ret (results_t6 rfl _ _ ⟨w.heap.size,0,none⟩ _ rfl (run_load6 (full6 HZ3.out _ _ _ _ _))) rfl ?_
 exact⟨⟨_,_,_,_,_⟩,t,s,rfl,(HO.out.set5 (by omega)).mono (by omega),HSZ.out,hs3,below_set5 HB.out (Nat.le_refl _)⟩
end
end Go.Proofs.YtecladbckadijaaGreatDoor
