/- For every list of bytes laws.FnTypes returns true: the canonical form of a drawn text is canonical and a value; a drawn type that is written is read, exactly if it is valid, as what is written alike; a drawn type that is narrowed has just the values within; under the card's ties alone: the tables that the row lists hold what the program's text lays. -/
import Derived.Test.YtecladbckadijaaGreatDoorTyJ
import Derived.ShutString
import Derived.ChangeOld
import Derived.Test.YtecladbckadijaaGreatDoorCards
import Derived.Test.YtecladbckadijaaGreatDoorTie
import Derived.PinnedBridge
import Derived.Lay
import Derived.LaidOnce
import Derived.SevenTiedAt
import Derived.ChangeVars
import Derived.LaidMore
set_option linter.unusedVariables false
set_option linter.unusedSimpArgs false
set_option maxRecDepth 100000
set_option maxHeartbeats 16000000
namespace Go.Proofs.YtecladbckadijaaGreatDoor.fnTypes
open Go.ChangeShapes Go.WideShapes Go.ChangeAt Go.RowKit
open Go.ChangeMaps (open_string shut_string)
open List (setIfInBounds_toArray set_cons_zero set_cons_succ)
def textsD {H:Type}(ss:List (List UInt8)):DataW H:=.agg (ss.map fun s=>.lit (.string s))
theorem strTab {P:Program}{w:World}{n:String}{ss:List (List UInt8)}{g:Nat}{t e:TypeId}{m:Nat}(h:Go.Lib.VarReads P w n (textsD ss))(hg:P.globalNamed n=some g)(ht:(P.globals[g]?).map (·.type)=some t)
  (hu:P.underlying t=some (.array m e)) (he:P.underlying e=some .string) (hc:P.cellsOf e=1) (i:Nat) (s:List UInt8) (hi:i<m) (hs:ss[i]? =some s):w.cell? ⟨g,i,none⟩=some (.string ⟨s.toArray⟩):=by
 obtain⟨g',t',cs,fuel,p,h1,h2,h3,h4⟩:=h
 obtain rfl:=Option.some.inj (hg.symm.trans h1)
 obtain rfl:=Option.some.inj (ht.symm.trans h2)
 obtain⟨fuel',d,q,hd,hf⟩:=Go.Lib.array_elem hu h4 i hi
 rw [hc,Nat.mul_one]at hf
 obtain⟨s',hcs,hx,_⟩:=DataW.trod_string he hf
 rw [List.getElem?_map,hs]at hd
 simp only [Option.map_some,Option.some.injEq]at hd
 have hx1:=congrArg Prod.fst hx
 rw [←hd]at hx1
 simp only [DataW.lit.injEq,Lit.string.injEq]at hx1
 have h5:cs.toList[i]? =some (.string s'):=by
  have:=congrArg (·[0]?) hcs
  simpa [List.getElem?_take,List.getElem?_drop]using this
 have h6:=World.var?_cell hg h3 i
 rw [h6]
 rw [Array.getElem?_toList]at h5
 rw [h5,hx1]
theorem src_of {w:World}{A:Option Addr}{n c:Nat}{z:List Int}(h:(A=none∧n=0∧c=0∧z=[])∨∃x,A=some x∧n≤c∧c≤maxLen∧z.length=c∧(∀i,i<z.length→w.cell? (x.add i)=some (.int .u8 (z.getD i 0)))∧∀y∈z,(Lit.int .u8 y).wf=true):Src w A n:=by
 rcases h with ⟨_,rfl,_,_⟩|⟨x,rfl,hl,hm,hz,hc,hw⟩
 ·exact⟨by omega,fun j hj=>by omega⟩
 ·refine⟨by unfold maxLen at hm;omega,fun j hj=>?_⟩
  have hcell:=hc j (by omega)
  have hb:=bounds_u8 (hw (z.getD j 0) (by rw [List.getD_eq_getElem?_getD,List.getElem?_eq_getElem (by omega),Option.getD_some];exact List.getElem_mem _))
  have hlt:(x.add j).block<w.heap.size:=by
   rcases Nat.lt_or_ge (x.add j).block w.heap.size with hlt|hge
   ·exact hlt
   ·unfold World.cell? at hcell;rw [Array.getElem?_eq_none hge]at hcell;cases hcell
  exact⟨x,_,rfl,by rw [←add_block x j];exact hlt,by omega,by omega,hcell⟩

theorem own:ownKnob Tryz.prog.godebug=none:=by kernel_rfl
theorem laidOut:laidOutB Tryz.prog=true:=by kernel_rfl

def TB (w:World)(b B:Nat)(k:Int)(vr vn:Value)(pt ph:ByteArray)(t:Ty):Prop:=OwnTy B w ⟨k,vr,vn,pt,ph⟩ t∧w.heap[b]? =some (.cells #[.int .i64 k,vr,vn,.string pt,.string ph] 27 (0,0))
theorem TB.below {w w':World}{b B:Nat}{k:Int}{vr vn:Value}{pt ph:ByteArray}{t:Ty}(h:TB w b B k vr vn pt ph t)(hb:Below w.heap.size w w'):TB w' b B k vr vn pt ph t:=⟨h.1.below hb,(hb.block b (Array.getElem?_eq_some_iff.1 h.2).1).trans h.2⟩
theorem TB.lt {w:World}{b B:Nat}{k:Int}{vr vn:Value}{pt ph:ByteArray}{t:Ty}(h:TB w b B k vr vn pt ph t):b<w.heap.size:=(Array.getElem?_eq_some_iff.1 h.2).1
theorem TB.new {w:World}{B:Nat}{k:Int}{vr vn:Value}{pt ph:ByteArray}{t:Ty}(h:OwnTy B w ⟨k,vr,vn,pt,ph⟩ t):TB (w.alloc (.cells #[.int .i64 k,vr,vn,.string pt,.string ph] 27)) w.heap.size B k vr vn pt ph t:=
 ⟨h.below (below_al (Below.refl _ _) _),heap_alloc_new w _⟩
theorem tupS_eq (o:Option ByteArray):tupS o=.tuple #[.string (o.getD ⟨#[]⟩),.bool o.isSome]:=by cases o<;>rfl
theorem tupI_eq (o:Option Int):tupI o=.tuple #[.int .i64 (o.getD 0),.bool o.isSome]:=by cases o<;>rfl
theorem some_of {o:Option ByteArray}(h:o.isSome=true):o=some (o.getD ⟨#[]⟩):=by cases o with|none=>cases h|some x=>rfl
theorem getD_size {o:Option ByteArray}{n:Nat}(h:∀x,o=some x→x.size≤n):(o.getD ⟨#[]⟩).size≤n:=by cases o with|none=>exact Nat.zero_le _|some x=>exact h x rfl
def TabC (w:World):Prop:=∀i s,i<7→typeWs[i]? =some s→w.cell? ⟨0,i,none⟩=some (.string ⟨s.toArray⟩)
theorem TabC.below {w w':World}(h:TabC w)(hb:Below w.heap.size w w'):TabC w':=fun i s hi hs=>(hb.cell (lt_of_cell (h i s hi hs))).trans (h i s hi hs)
theorem can_facts (t:Ty)(s:ByteArray)(hs:s.size≤400):∃(y1 y2:ByteArray) (q1 q2 b1 b2:Bool),tupS (canonT t s)=.tuple #[.string y1,.bool q1]∧tupS (canonT t y1)=.tuple #[.string y2,.bool q2]∧isValB t y1=b1∧isValB t s=b2∧y1.size≤1048576∧(q1=true→q2=true∧y2=y1∧b1=true)∧(q1=false→b2=false):=by
 cases h:canonT t s with
 | none=>exact⟨_,_,_,_,_,_,rfl,tupS_eq _,rfl,rfl,Nat.zero_le _,(fun e=>by cases e),fun _=>valB_none h⟩
 | some y =>
  exact⟨y,y,true,true,true,_,rfl,by rw [canonT_again h];rfl,valB_again h,rfl,canonT_size h hs,(fun _=>⟨rfl,rfl,rfl⟩),(fun e=>by cases e)⟩
theorem nar_facts (x:Ty)(r:List Rg)(s:ByteArray)(hs:s.size≤400):∃(n:Ty) (c:ByteArray) (may is zb:Bool) (z:Int),(narrT x r).1=n∧(narrT x r).2=may∧tupS (canonT x s)=.tuple #[.string c,.bool is]∧tupI (NumP.parseL c.data.toList)=.tuple #[.int .i64 z,.bool zb]∧c.size≤1048576∧(may=true→isTyB n=true∧(is=true→∀y:Int,(x.k=1→y=z)→(¬x.k=1→y=c.size)→isValB n c=inB r y)):=by
 have hty:(narrT x r).2=true→isTyB (narrT x r).1=true:=fun h=>by
  have h9:narrT x r=((narrT x r).1,true):=by rw [←h]
  obtain⟨_,_,_,h1,h2⟩:=narr_yes h9
  rw [h2];exact h1
 cases h:canonT x s with
 | none=>exact⟨_,_,_,_,_,_,rfl,rfl,rfl,tupI_eq _,Nat.zero_le _,fun hm=>⟨hty hm,fun e=>by cases e⟩⟩
 | some y =>
  refine⟨_,y,_,true,_,_,rfl,rfl,rfl,tupI_eq _,canonT_size h hs,fun hm=>⟨hty hm,fun _ k h1 h2=>?_⟩⟩
  have h9:narrT x r=((narrT x r).1,true):=by rw [←hm]
  rw [(narr_law h9 h).2]
  congr 1
  unfold szV
  by_cases hk:x.k=1
  ·rw [if_pos hk,h1 hk]
  ·rw [if_neg hk,h2 hk]
theorem ptV_ty {B:Nat}{q:Bool}{t:Ty}{e:Ending}{w:World}(h:PtV B (if q=true then some t else none) e w):∃(v:TyV) (u:Ty),e=.returned (.tuple #[v.val,.bool q])∧OwnTy B w v u∧(q=true→u=t):=by
 cases q with
 | true=>obtain⟨v,h1,h2⟩:=h;exact⟨v,t,h1,h2,fun _=>rfl⟩
 | false=>obtain⟨v,h1,h2⟩:=h;exact⟨v,zeroTy,h1,h2,fun e=>by cases e⟩

theorem gVar : Tryz.prog.globalNamed "loop.example/g03013/impl.typeWords" = some 0 := by kernel_rfl
theorem gType:(Tryz.prog.globals[0]?).map (·.type)=some 71∧Tryz.prog.underlying 71=some (.array 7 9):=⟨by kernel_rfl,by kernel_rfl⟩
theorem var?_below {P:Program}{W W':World}{n:String}{g:Nat}{cs:Array Value}(hg:P.globalNamed n=some g)(h:W.var? P n=some cs)(hb:Below W.heap.size W W'):W'.var? P n=some cs:=by
 simp only [World.var?,hg,Option.bind_some]at h ⊢
 have hlt:g<W.heap.size:=by
  rcases Nat.lt_or_ge g W.heap.size with h'|h'
  ·exact h'
  ·simp [Array.getElem?_eq_none h']at h
 rw [hb.block g hlt];exact h

theorem walk (a0:Option Addr)(len0 cap0:Nat)(w:World)(w0:Src w a0 len0)(hT:∀i s,i<7→typeWs[i]? =some s→w.cell? ⟨0,i,none⟩=some (.string ⟨s.toArray⟩)):
  Calls Tryz.prog 3 #[.slice a0 len0 cap0] w fun e w'=>e=.returned (.bool true)∧Below w.heap.size w w':=by
 have hsrc:=w0
 have HB0:=Lib.hid (Below.refl w.heap.size w)
 by_cases hbig:4096<len0
 ·have hd:decide (4096<len0)=true:=by simpa using hbig
  go_enter Tryz.func3,Tryz.ntmps3
  go_wp2_with (go_at_call 4;refine(big_any _ _ _ _).mono ?_;rw [hd];rintro e w' ⟨rfl,rfl⟩)
  go_ret
  exact⟨rfl,HB0.out⟩
 have hd:decide (4096<len0)=false:=by simpa using hbig
 have HDR:=Lib.hid (drawCV_any _ _ cap0 _ hsrc)
 have HDN:=Lib.hid (fun W (hb:Below w.heap.size w W)=>drawNT_any a0 len0 cap0 W (src_below hsrc hb))
 have HBG:=Lib.hid (big_any a0 len0 cap0 w)
 have HT:Hid (TabC w):=Lib.hid hT
 rw [hd]at HBG
 clear hsrc hd hbig hT
 go_enter Tryz.func3,Tryz.ntmps3
 go_wp2_with fail
 refine HBG.out.mono ?_
 rintro e w' ⟨rfl,rfl⟩
 go_wp2_with fail
 refine HDR.out.mono ?_
 rintro e w1 ⟨v,t,s,rfl,hO,hDZ,hS,hb⟩
 obtain⟨At,nt,ct,g1⟩:∃A n c,v.vr=.slice A n c:=by obtain⟨A,c,hv,_⟩:=RowR.hasG hO.rg;exact⟨A,_,c,hv⟩
 obtain⟨Ft,mt,dt,g2⟩:∃A n c,v.vn=.slice A n c:=by obtain⟨A,c,hv,_⟩:=Row.has hO.nm;exact⟨A,_,c,hv⟩
 obtain⟨kt,rt,st,pt,qt⟩:=v
 dsimp only at g1 g2
 subst g1 g2
 have HS:=Lib.hid hS
 have HDZ:=Lib.hid hDZ
 have hb1:=below_al (Below.refl w1.heap.size w1) (.cells #[.int .i64 kt,.slice At nt ct,.slice Ft mt dt,.string pt,.string qt] 27)
 have HB:=Lib.hid (below_step hb hb1)
 have HX:=Lib.hid (TB.new (hO.mono (Nat.zero_le _)))
 obtain⟨y1,y2,q1,q2,b1,b2,f1,f2,f3,f4,hy1,F1,F2⟩:=can_facts t s HS.out
 have HF1:=Lib.hid F1
 have HF2:=Lib.hid F2
 have HY1:=Lib.hid hy1
 have C1:Hid (∀W,TB W w1.heap.size 0 kt (.slice At nt ct) (.slice Ft mt dt) pt qt t→Calls Tryz.prog 6 #[(⟨kt,.slice At nt ct,.slice Ft mt dt,pt,qt⟩:TyV).val,.string s] W fun e w'=>e=.returned (.tuple #[.string y1,.bool q1])∧Below W.heap.size W w'):=Lib.hid fun W h=>by
  have:=iCanon_any _ t s W h.1.has h.1.nm.capN (dr5_sz HDZ.out) (Nat.le_trans HS.out (by omega))
  rw [f1]at this;exact this
 have C1s:Hid (∀W,TB W w1.heap.size 0 kt (.slice At nt ct) (.slice Ft mt dt) pt qt t→Calls Tryz.prog 7 #[(⟨kt,.slice At nt ct,.slice Ft mt dt,pt,qt⟩:TyV).val,.string s] W fun e w'=>e=.returned (.tuple #[.string y1,.bool q1])∧Below W.heap.size W w'):=Lib.hid fun W h=>by
  have:=sCanon_any _ t s W h.1.has (dr5_sz HDZ.out) (Nat.le_trans HS.out (by omega))
  rw [f1]at this;exact this
 have C2:Hid (∀W,TB W w1.heap.size 0 kt (.slice At nt ct) (.slice Ft mt dt) pt qt t→Calls Tryz.prog 6 #[(⟨kt,.slice At nt ct,.slice Ft mt dt,pt,qt⟩:TyV).val,.string y1] W fun e w'=>e=.returned (.tuple #[.string y2,.bool q2])∧Below W.heap.size W w'):=Lib.hid fun W h=>by
  have:=iCanon_any _ t y1 W h.1.has h.1.nm.capN (dr5_sz HDZ.out) HY1.out
  rw [f2]at this;exact this
 have V1:Hid (∀W,TB W w1.heap.size 0 kt (.slice At nt ct) (.slice Ft mt dt) pt qt t→Calls Tryz.prog 8 #[(⟨kt,.slice At nt ct,.slice Ft mt dt,pt,qt⟩:TyV).val,.string y1] W fun e w'=>e=.returned (.bool b1)∧Below W.heap.size W w'):=Lib.hid fun W h=>by
  have:=iIsVal_any _ t y1 W h.1.has h.1.nm.capN (dr5_sz HDZ.out) HY1.out
  rw [f3]at this;exact this
 have V2:Hid (∀W,TB W w1.heap.size 0 kt (.slice At nt ct) (.slice Ft mt dt) pt qt t→Calls Tryz.prog 8 #[(⟨kt,.slice At nt ct,.slice Ft mt dt,pt,qt⟩:TyV).val,.string s] W fun e w'=>e=.returned (.bool b2)∧Below W.heap.size W w'):=Lib.hid fun W h=>by
  have:=iIsVal_any _ t s W h.1.has h.1.nm.capN (dr5_sz HDZ.out) (Nat.le_trans HS.out (by omega))
  rw [f4]at this;exact this
 have CIT:Hid (∀W,TB W w1.heap.size 0 kt (.slice At nt ct) (.slice Ft mt dt) pt qt t→Calls Tryz.prog 11 #[(⟨kt,.slice At nt ct,.slice Ft mt dt,pt,qt⟩:TyV).val] W fun e w'=>e=.returned (.bool (isTyB t))∧Below W.heap.size W w'):=Lib.hid fun W h=>iIsTy_any _ t W h.1.has h.1.nm.capN (dr5_sz HDZ.out)
 have CFT:Hid (∀v W,OwnTy 0 W v t→TabC W→Calls Tryz.prog 10 #[v.val] W fun e w'=>e=.returned (.string (fmtTy t))∧Below W.heap.size W w'):=Lib.hid fun v W h ht=>iFmtD_any v t W h.has h.nm.capN h.nilTy (.inr (dr5_sz HDZ.out)) (dr5_fm HDZ.out) ht
 have CPT:Hid (∀W,TabC W→Calls Tryz.prog 9 #[.string (fmtTy t)] W fun e w'=>(∃(v:TyV) (u:Ty),e=.returned (.tuple #[v.val,.bool (isTyB t)])∧OwnTy W.heap.size w' v u∧(isTyB t=true→u=t))∧Below W.heap.size W w'):=Lib.hid fun W ht=>(parse_type t HDZ.out W ht).mono fun e w' h=>⟨ptV_ty h.1,h.2⟩
 replace HT:=Lib.hid (HT.out.below (below_step hb hb1))
 generalize fmtTy t=ft at CFT CPT
 generalize hqt:isTyB t=qq at CIT CPT
 clear f1 f2 f3 f4 F1 F2 hy1 hqt hO hb hb1 HDR HBG hS hDZ HDZ HY1
 cases q1
 case' false=>
  obtain rfl:=HF2.out (by first|exact rfl|trivial)
  clear HF1 HF2
  obtain⟨⟨a0,a1,a2,a3,a4⟩,-⟩:=five HX.out.2
  go_wp2_with fail
  refine(C1.out _ HX.out).mono ?_
  rintro e wz ⟨rfl,hb⟩
  replace HB:=Lib.hid (below_step HB.out hb)
  replace HT:=Lib.hid (HT.out.below hb)
  replace HX:=Lib.hid (HX.out.below hb)
  clear hb a0 a1 a2 a3 a4
  obtain⟨⟨a0,a1,a2,a3,a4⟩,-⟩:=five HX.out.2
  go_wp2_with fail
  refine(C1s.out _ HX.out).mono ?_
  rintro e wz ⟨rfl,hb⟩
  replace HB:=Lib.hid (below_step HB.out hb)
  replace HT:=Lib.hid (HT.out.below hb)
  replace HX:=Lib.hid (HX.out.below hb)
  clear hb a0 a1 a2 a3 a4
  obtain⟨⟨a0,a1,a2,a3,a4⟩,-⟩:=five HX.out.2
  go_wp2_with fail
  refine(C2.out _ HX.out).mono ?_
  rintro e wz ⟨rfl,hb⟩
  replace HB:=Lib.hid (below_step HB.out hb)
  replace HT:=Lib.hid (HT.out.below hb)
  replace HX:=Lib.hid (HX.out.below hb)
  clear hb a0 a1 a2 a3 a4
  obtain⟨⟨a0,a1,a2,a3,a4⟩,-⟩:=five HX.out.2
  go_wp2_with fail
  refine(V2.out _ HX.out).mono ?_
  rintro e wz ⟨rfl,hb⟩
  replace HB:=Lib.hid (below_step HB.out hb)
  replace HT:=Lib.hid (HT.out.below hb)
  replace HX:=Lib.hid (HX.out.below hb)
  clear hb a0 a1 a2 a3 a4
  clear C1 C1s C2 V1 V2
 case' true=>
  obtain⟨rfl,rfl,rfl⟩:=HF1.out (by first|exact rfl|trivial)
  cases b2
  all_goals
   clear HF1 HF2
   obtain⟨⟨a0,a1,a2,a3,a4⟩,-⟩:=five HX.out.2
   go_wp2_with fail
   refine(C1.out _ HX.out).mono ?_
   rintro e wz ⟨rfl,hb⟩
   replace HB:=Lib.hid (below_step HB.out hb)
   replace HT:=Lib.hid (HT.out.below hb)
   replace HX:=Lib.hid (HX.out.below hb)
   clear hb a0 a1 a2 a3 a4
   obtain⟨⟨a0,a1,a2,a3,a4⟩,-⟩:=five HX.out.2
   go_wp2_with fail
   refine(C1s.out _ HX.out).mono ?_
   rintro e wz ⟨rfl,hb⟩
   replace HB:=Lib.hid (below_step HB.out hb)
   replace HT:=Lib.hid (HT.out.below hb)
   replace HX:=Lib.hid (HX.out.below hb)
   clear hb a0 a1 a2 a3 a4
   obtain⟨⟨a0,a1,a2,a3,a4⟩,-⟩:=five HX.out.2
   go_wp2_with fail
   refine(C2.out _ HX.out).mono ?_
   rintro e wz ⟨rfl,hb⟩
   replace HB:=Lib.hid (below_step HB.out hb)
   replace HT:=Lib.hid (HT.out.below hb)
   replace HX:=Lib.hid (HX.out.below hb)
   clear hb a0 a1 a2 a3 a4
   have n0:(y2.toList==y2.toList)=true:=by simp
   have n1:(y2.toList != y2.toList)=false:=by simp
   obtain⟨⟨a0,a1,a2,a3,a4⟩,-⟩:=five HX.out.2
   go_wp2_with fail
   refine(V1.out _ HX.out).mono ?_
   rintro e wz ⟨rfl,hb⟩
   replace HB:=Lib.hid (below_step HB.out hb)
   replace HT:=Lib.hid (HT.out.below hb)
   replace HX:=Lib.hid (HX.out.below hb)
   clear hb a0 a1 a2 a3 a4
   obtain⟨⟨a0,a1,a2,a3,a4⟩,-⟩:=five HX.out.2
   go_wp2_with fail
   refine(V2.out _ HX.out).mono ?_
   rintro e wz ⟨rfl,hb⟩
   replace HB:=Lib.hid (below_step HB.out hb)
   replace HT:=Lib.hid (HT.out.below hb)
   replace HX:=Lib.hid (HX.out.below hb)
   clear hb a0 a1 a2 a3 a4
   clear C1 C1s C2 V1 V2 n0 n1
 all_goals
  obtain⟨⟨a0,a1,a2,a3,a4⟩,-⟩:=five HX.out.2
  go_wp2_with fail
  refine(CFT.out ⟨kt,.slice At nt ct,.slice Ft mt dt,pt,qt⟩ _ HX.out.1 HT.out).mono ?_
  rintro e wz ⟨rfl,hb⟩
  replace HB:=Lib.hid (below_step HB.out hb)
  replace HT:=Lib.hid (HT.out.below hb)
  replace HX:=Lib.hid (HX.out.below hb)
  clear hb a0 a1 a2 a3 a4
  obtain⟨⟨a0,a1,a2,a3,a4⟩,-⟩:=five HX.out.2
  go_wp2_with fail
  refine(CPT.out _ HT.out).mono ?_
  rintro e wz ⟨⟨vu,uu,rfl,hou,hur⟩,hb⟩
  obtain⟨Au,nu,cu,g1⟩:∃A n c,vu.vr=.slice A n c:=by obtain⟨A,c,hv,_⟩:=RowR.hasG hou.rg;exact⟨A,_,c,hv⟩
  obtain⟨Fu,mu,du,g2⟩:∃A n c,vu.vn=.slice A n c:=by obtain⟨A,c,hv,_⟩:=Row.has hou.nm;exact⟨A,_,c,hv⟩
  obtain⟨ku,ru,su,pu,qu⟩:=vu
  dsimp only at g1 g2
  subst g1 g2
  have HXZ:Hid (w1.heap.size<wz.heap.size):=Lib.hid (Nat.lt_of_lt_of_le HX.out.lt hb.size)
  have hbE:=below_step hb (below_al (Below.refl wz.heap.size wz) (.cells #[.int .i64 ku,.slice Au nu cu,.slice Fu mu du,.string pu,.string qu] 27))
  have HU:=Lib.hid (TB.new (hou.mono (Nat.zero_le _)))
  replace HB:=Lib.hid (below_step HB.out hbE)
  replace HT:=Lib.hid (HT.out.below hbE)
  replace HX:=Lib.hid (HX.out.below hbE)
  have HUR:=Lib.hid hur
  clear hb hbE hou hur
  obtain⟨wx,hwx⟩:∃wx,wx=wz.alloc (.cells #[.int .i64 ku,.slice Au nu cu,.slice Fu mu du,.string pu,.string qu] 27):=⟨_,rfl⟩
  have hxz:w1.heap.size<wz.heap.size:=HXZ.out
  go_wp2
  rw [←hwx]at HB HT HX HU ⊢
  clear hwx hxz a0 a1 a2 a3 a4
  have HK:Hid (∀W,Below wx.heap.size wx W→((W.cell? ⟨w1.heap.size,0,none⟩=some (.int .i64 kt)∧W.cell? ⟨w1.heap.size,1,none⟩=some (.slice At nt ct)∧W.cell? ⟨w1.heap.size,2,none⟩=some (.slice Ft mt dt)∧W.cell? ⟨w1.heap.size,3,none⟩=some (.string pt)∧W.cell? ⟨w1.heap.size,4,none⟩=some (.string qt))∧(W.cell? ⟨wz.heap.size,0,none⟩=some (.int .i64 ku)∧W.cell? ⟨wz.heap.size,1,none⟩=some (.slice Au nu cu)∧W.cell? ⟨wz.heap.size,2,none⟩=some (.slice Fu mu du)∧W.cell? ⟨wz.heap.size,3,none⟩=some (.string pu)∧W.cell? ⟨wz.heap.size,4,none⟩=some (.string qu)))∧Below wx.heap.size wx W):=Lib.hid fun W hb=>⟨⟨(five (HX.out.below hb).2).1,(five (HU.out.below hb).2).1⟩,hb⟩
  have HIT:=Lib.hid (fun W (hb:Below wx.heap.size wx W)=>CIT.out W (HX.out.below hb))
  have HFX:=Lib.hid (fun W (hb:Below wx.heap.size wx W)=>CFT.out ⟨kt,.slice At nt ct,.slice Ft mt dt,pt,qt⟩ W (HX.out.below hb).1 (HT.out.below hb))
  have n0:(ft.toList==ft.toList)=true:=by simp
  have n1:(ft.toList != ft.toList)=false:=by simp
  cases qq
  case' false=>
   refine wp_region_held_drew (S:=fun w'=>((w'.cell? ⟨w1.heap.size,0,none⟩=some (.int .i64 kt)∧w'.cell? ⟨w1.heap.size,1,none⟩=some (.slice At nt ct)∧w'.cell? ⟨w1.heap.size,2,none⟩=some (.slice Ft mt dt)∧w'.cell? ⟨w1.heap.size,3,none⟩=some (.string pt)∧w'.cell? ⟨w1.heap.size,4,none⟩=some (.string qt))∧(w'.cell? ⟨wz.heap.size,0,none⟩=some (.int .i64 ku)∧w'.cell? ⟨wz.heap.size,1,none⟩=some (.slice Au nu cu)∧w'.cell? ⟨wz.heap.size,2,none⟩=some (.slice Fu mu du)∧w'.cell? ⟨wz.heap.size,3,none⟩=some (.string pu)∧w'.cell? ⟨wz.heap.size,4,none⟩=some (.string qu)))∧Below wx.heap.size wx w') (by kernel_rfl) (HK.out _ (Below.refl _ _).drew) (fun hHeld=>?_)
   refine wpAnyH_take (i:=0) (oi:={dst:=some 79,op:=.move (.tmp 12),type:=4,pos:=_,after:=#[],guard:=none}) (v:=.bool false) rfl (by kernel_rfl) (by kernel_rfl) (by kernel_rfl) (fun _ _ _ h=>h) (Or.inl ⟨by rfl,by(intro w hSw;(try dsimp only at hSw);go_simp;try with_reducible rfl)⟩) (by assumption) ?_
   try simp only [Act.put,setIfInBounds_toArray,set_cons_zero,set_cons_succ]
   refine wpAnyH_take (i:=1) (oi:={dst:=some 80,op:=.load 27 (.tmp 3),type:=27,pos:=_,after:=#[],guard:=none}) (v:=.agg #[.int .i64 kt,.slice At nt ct,.slice Ft mt dt,.string pt,.string qt]) rfl (by kernel_rfl) (by kernel_rfl) (by kernel_rfl) (fun _ _ _ h=>h) (Or.inl ⟨by rfl,by(intro w hSw;(try dsimp only at hSw);go_simp;try with_reducible rfl)⟩) (by assumption) ?_
   try simp only [Act.put,setIfInBounds_toArray,set_cons_zero,set_cons_succ]
   refine wpAnyH_ready (rs:=[2]) (by kernel_rfl) (by simp) ?_
   refine AllReadyH.cons (o:={ dst:=some 81,op:=Op.call { callee:=Callee.value (Operand.func 11),args:=#[Operand.tmp 80],argTypes:=#[27] },type:=4,pos:=_,after:=#[{ on:=1,ground:=Ground.data }],guard:=none }) rfl (fun K hK=>?_) AllReadyH.nil
   go_simp
   refine(HIT.out _ hHeld.2).mono ?_
   rintro e wc1 ⟨rfl,hbm⟩
   refine hK.out _ _ (HK.out _ (below_step hHeld.2 hbm)) (fun hHeld2=>?_)
   clear hbm
   clear hK K hHeld;have hHeld:=hHeld2;clear hHeld2
   try simp only [Act.put,setIfInBounds_toArray,set_cons_zero,set_cons_succ]
   refine wpAnyH_take (i:=3) (oi:={dst:=some 82,op:=.binOp .neq 4 (.tmp 79) (.tmp 81) 4,type:=4,pos:=_,after:=#[{on:=0,ground:=.data},{on:=2,ground:=.data}],guard:=none}) (v:=.bool false) rfl (by kernel_rfl) (by kernel_rfl) (by kernel_rfl) (fun _ _ _ h=>h) (Or.inl ⟨by rfl,by(intro w hSw;(try dsimp only at hSw);go_simp;try with_reducible rfl)⟩) (by assumption) ?_
   try simp only [Act.put,setIfInBounds_toArray,set_cons_zero,set_cons_succ]
   refine wpAnyH_take (i:=4) (oi:={dst:=some 83,op:=.move (.tmp 82),type:=4,pos:=_,after:=#[{on:=3,ground:=.data},{on:=2,ground:=.chain}],guard:=none}) (v:=.bool false) rfl (by kernel_rfl) (by kernel_rfl) (by kernel_rfl) (fun _ _ _ h=>h) (Or.inl ⟨by rfl,by(intro w hSw;(try dsimp only at hSw);go_simp;try with_reducible rfl)⟩) (by assumption) ?_
   try simp only [Act.put,setIfInBounds_toArray,set_cons_zero,set_cons_succ]
   refine wpAnyH_take (i:=5) (oi:={dst:=some 84,op:=.move (.tmp 12),type:=4,pos:=_,after:=#[{on:=4,ground:=.guard}],guard:=some (4,false)}) (v:=.bool false) rfl (by kernel_rfl) (by kernel_rfl) (by kernel_rfl) (fun _ _ _ h=>h) (Or.inl ⟨by rfl,by(intro w hSw;(try dsimp only at hSw);go_simp;try with_reducible rfl)⟩) (by assumption) ?_
   try simp only [Act.put,setIfInBounds_toArray,set_cons_zero,set_cons_succ]
   refine wpAnyH_take (i:=6) (oi:={dst:=some 85,op:=.move (.tmp 84),type:=4,pos:=_,after:=#[{on:=5,ground:=.data},{on:=4,ground:=.chain},{on:=4,ground:=.guard}],guard:=some (4,false)}) (v:=.bool false) rfl (by kernel_rfl) (by kernel_rfl) (by kernel_rfl) (fun _ _ _ h=>h) (Or.inl ⟨by rfl,by(intro w hSw;(try dsimp only at hSw);go_simp;try with_reducible rfl)⟩) (by assumption) ?_
   try simp only [Act.put,setIfInBounds_toArray,set_cons_zero,set_cons_succ]
   refine wpAnyH_take (i:=7) (oi:={dst:=some 86,op:=.load 27 (.tmp 11),type:=27,pos:=_,after:=#[{on:=6,ground:=.guard}],guard:=some (6,true)}) (v:=undef) rfl (by kernel_rfl) (by kernel_rfl) (by kernel_rfl) (fun _ _ _ h=>h) (Or.inr ⟨by rfl,rfl⟩) (by assumption) ?_
   try simp only [Act.put,setIfInBounds_toArray,set_cons_zero,set_cons_succ]
   refine wpAnyH_take (i:=9) (oi:={dst:=some 88,op:=.load 27 (.tmp 3),type:=27,pos:=_,after:=#[{on:=6,ground:=.guard}],guard:=some (6,true)}) (v:=undef) rfl (by kernel_rfl) (by kernel_rfl) (by kernel_rfl) (fun _ _ _ h=>h) (Or.inr ⟨by rfl,rfl⟩) (by assumption) ?_
   try simp only [Act.put,setIfInBounds_toArray,set_cons_zero,set_cons_succ]
   refine wpAnyH_take (i:=8) (oi:={dst:=some 87,op:=.call {callee:=.value (.func 10),args:=#[.tmp 86],argTypes:=#[27]},type:=9,pos:=_,after:=#[{on:=7,ground:=.data},{on:=6,ground:=.chain},{on:=6,ground:=.guard}],guard:=some (6,true)}) (v:=undef) rfl (by kernel_rfl) (by kernel_rfl) (by kernel_rfl) (fun _ _ _ h=>h) (Or.inr ⟨by rfl,rfl⟩) (by assumption) ?_
   try simp only [Act.put,setIfInBounds_toArray,set_cons_zero,set_cons_succ]
   refine wpAnyH_take (i:=10) (oi:={dst:=some 89,op:=.call {callee:=.value (.func 10),args:=#[.tmp 88],argTypes:=#[27]},type:=9,pos:=_,after:=#[{on:=9,ground:=.data},{on:=8,ground:=.chain},{on:=6,ground:=.guard}],guard:=some (6,true)}) (v:=undef) rfl (by kernel_rfl) (by kernel_rfl) (by kernel_rfl) (fun _ _ _ h=>h) (Or.inr ⟨by rfl,rfl⟩) (by assumption) ?_
   try simp only [Act.put,setIfInBounds_toArray,set_cons_zero,set_cons_succ]
   refine wpAnyH_take (i:=11) (oi:={dst:=some 90,op:=.binOp .neq 9 (.tmp 87) (.tmp 89) 9,type:=4,pos:=_,after:=#[{on:=8,ground:=.data},{on:=10,ground:=.data},{on:=6,ground:=.guard}],guard:=some (6,true)}) (v:=undef) rfl (by kernel_rfl) (by kernel_rfl) (by kernel_rfl) (fun _ _ _ h=>h) (Or.inr ⟨by rfl,rfl⟩) (by assumption) ?_
   try simp only [Act.put,setIfInBounds_toArray,set_cons_zero,set_cons_succ]
   refine wpAnyH_take (i:=12) (oi:={dst:=some 91,op:=.pick (.tmp 85) (.tmp 90) (.const (.bool false)),type:=4,pos:=_,after:=#[{on:=6,ground:=.data},{on:=11,ground:=.data},{on:=4,ground:=.guard}],guard:=some (4,false)}) (v:=.bool false) rfl (by kernel_rfl) (by kernel_rfl) (by kernel_rfl) (fun _ _ _ h=>h) (Or.inl ⟨by rfl,by(intro w hSw;(try dsimp only at hSw);go_simp;try with_reducible rfl)⟩) (by assumption) ?_
   try simp only [Act.put,setIfInBounds_toArray,set_cons_zero,set_cons_succ]
   refine wpAnyH_take (i:=13) (oi:={dst:=some 92,op:=.pick (.tmp 83) (.const (.bool true)) (.tmp 91),type:=4,pos:=_,after:=#[{on:=4,ground:=.data},{on:=12,ground:=.data}],guard:=none}) (v:=.bool false) rfl (by kernel_rfl) (by kernel_rfl) (by kernel_rfl) (fun _ _ _ h=>h) (Or.inl ⟨by rfl,by(intro w hSw;(try dsimp only at hSw);go_simp;try with_reducible rfl)⟩) (by assumption) ?_
   try simp only [Act.put,setIfInBounds_toArray,set_cons_zero,set_cons_succ]
   refine wpAnyH_done (by kernel_rfl) ?_ _
   have hb:=hHeld.2
   replace HB:=Lib.hid (below_step HB.out hb)
   clear hHeld hb HK HIT HFX HX HU HT HUR n0 n1 CIT CFT CPT
  case' true=>
   have HFU:=Lib.hid (fun W (hb:Below wx.heap.size wx W)=>CFT.out ⟨ku,.slice Au nu cu,.slice Fu mu du,pu,qu⟩ W (by have:=(HU.out.below hb).1;rwa [HUR.out (by first|exact rfl|trivial)]at this) (HT.out.below hb))
   refine wp_region_held_drew (S:=fun w'=>((w'.cell? ⟨w1.heap.size,0,none⟩=some (.int .i64 kt)∧w'.cell? ⟨w1.heap.size,1,none⟩=some (.slice At nt ct)∧w'.cell? ⟨w1.heap.size,2,none⟩=some (.slice Ft mt dt)∧w'.cell? ⟨w1.heap.size,3,none⟩=some (.string pt)∧w'.cell? ⟨w1.heap.size,4,none⟩=some (.string qt))∧(w'.cell? ⟨wz.heap.size,0,none⟩=some (.int .i64 ku)∧w'.cell? ⟨wz.heap.size,1,none⟩=some (.slice Au nu cu)∧w'.cell? ⟨wz.heap.size,2,none⟩=some (.slice Fu mu du)∧w'.cell? ⟨wz.heap.size,3,none⟩=some (.string pu)∧w'.cell? ⟨wz.heap.size,4,none⟩=some (.string qu)))∧Below wx.heap.size wx w') (by kernel_rfl) (HK.out _ (Below.refl _ _).drew) (fun hHeld=>?_)
   refine wpAnyH_take (i:=0) (oi:={dst:=some 79,op:=.move (.tmp 12),type:=4,pos:=_,after:=#[],guard:=none}) (v:=.bool true) rfl (by kernel_rfl) (by kernel_rfl) (by kernel_rfl) (fun _ _ _ h=>h) (Or.inl ⟨by rfl,by(intro w hSw;(try dsimp only at hSw);go_simp;try with_reducible rfl)⟩) (by assumption) ?_
   try simp only [Act.put,setIfInBounds_toArray,set_cons_zero,set_cons_succ]
   refine wpAnyH_take (i:=1) (oi:={dst:=some 80,op:=.load 27 (.tmp 3),type:=27,pos:=_,after:=#[],guard:=none}) (v:=.agg #[.int .i64 kt,.slice At nt ct,.slice Ft mt dt,.string pt,.string qt]) rfl (by kernel_rfl) (by kernel_rfl) (by kernel_rfl) (fun _ _ _ h=>h) (Or.inl ⟨by rfl,by(intro w hSw;(try dsimp only at hSw);go_simp;try with_reducible rfl)⟩) (by assumption) ?_
   try simp only [Act.put,setIfInBounds_toArray,set_cons_zero,set_cons_succ]
   refine wpAnyH_ready (rs:=[2]) (by kernel_rfl) (by simp) ?_
   refine AllReadyH.cons (o:={ dst:=some 81,op:=Op.call { callee:=Callee.value (Operand.func 11),args:=#[Operand.tmp 80],argTypes:=#[27] },type:=4,pos:=_,after:=#[{ on:=1,ground:=Ground.data }],guard:=none }) rfl (fun K hK=>?_) AllReadyH.nil
   go_simp
   refine(HIT.out _ hHeld.2).mono ?_
   rintro e wc1 ⟨rfl,hbm⟩
   refine hK.out _ _ (HK.out _ (below_step hHeld.2 hbm)) (fun hHeld2=>?_)
   clear hbm
   clear hK K hHeld;have hHeld:=hHeld2;clear hHeld2
   try simp only [Act.put,setIfInBounds_toArray,set_cons_zero,set_cons_succ]
   refine wpAnyH_take (i:=3) (oi:={dst:=some 82,op:=.binOp .neq 4 (.tmp 79) (.tmp 81) 4,type:=4,pos:=_,after:=#[{on:=0,ground:=.data},{on:=2,ground:=.data}],guard:=none}) (v:=.bool false) rfl (by kernel_rfl) (by kernel_rfl) (by kernel_rfl) (fun _ _ _ h=>h) (Or.inl ⟨by rfl,by(intro w hSw;(try dsimp only at hSw);go_simp;try with_reducible rfl)⟩) (by assumption) ?_
   try simp only [Act.put,setIfInBounds_toArray,set_cons_zero,set_cons_succ]
   refine wpAnyH_take (i:=4) (oi:={dst:=some 83,op:=.move (.tmp 82),type:=4,pos:=_,after:=#[{on:=3,ground:=.data},{on:=2,ground:=.chain}],guard:=none}) (v:=.bool false) rfl (by kernel_rfl) (by kernel_rfl) (by kernel_rfl) (fun _ _ _ h=>h) (Or.inl ⟨by rfl,by(intro w hSw;(try dsimp only at hSw);go_simp;try with_reducible rfl)⟩) (by assumption) ?_
   try simp only [Act.put,setIfInBounds_toArray,set_cons_zero,set_cons_succ]
   refine wpAnyH_take (i:=5) (oi:={dst:=some 84,op:=.move (.tmp 12),type:=4,pos:=_,after:=#[{on:=4,ground:=.guard}],guard:=some (4,false)}) (v:=.bool true) rfl (by kernel_rfl) (by kernel_rfl) (by kernel_rfl) (fun _ _ _ h=>h) (Or.inl ⟨by rfl,by(intro w hSw;(try dsimp only at hSw);go_simp;try with_reducible rfl)⟩) (by assumption) ?_
   try simp only [Act.put,setIfInBounds_toArray,set_cons_zero,set_cons_succ]
   refine wpAnyH_take (i:=6) (oi:={dst:=some 85,op:=.move (.tmp 84),type:=4,pos:=_,after:=#[{on:=5,ground:=.data},{on:=4,ground:=.chain},{on:=4,ground:=.guard}],guard:=some (4,false)}) (v:=.bool true) rfl (by kernel_rfl) (by kernel_rfl) (by kernel_rfl) (fun _ _ _ h=>h) (Or.inl ⟨by rfl,by(intro w hSw;(try dsimp only at hSw);go_simp;try with_reducible rfl)⟩) (by assumption) ?_
   try simp only [Act.put,setIfInBounds_toArray,set_cons_zero,set_cons_succ]
   refine wpAnyH_take (i:=7) (oi:={dst:=some 86,op:=.load 27 (.tmp 11),type:=27,pos:=_,after:=#[{on:=6,ground:=.guard}],guard:=some (6,true)}) (v:=.agg #[.int .i64 ku,.slice Au nu cu,.slice Fu mu du,.string pu,.string qu]) rfl (by kernel_rfl) (by kernel_rfl) (by kernel_rfl) (fun _ _ _ h=>h) (Or.inl ⟨by rfl,by(intro w hSw;(try dsimp only at hSw);go_simp;try with_reducible rfl)⟩) (by assumption) ?_
   try simp only [Act.put,setIfInBounds_toArray,set_cons_zero,set_cons_succ]
   refine wpAnyH_take (i:=9) (oi:={dst:=some 88,op:=.load 27 (.tmp 3),type:=27,pos:=_,after:=#[{on:=6,ground:=.guard}],guard:=some (6,true)}) (v:=.agg #[.int .i64 kt,.slice At nt ct,.slice Ft mt dt,.string pt,.string qt]) rfl (by kernel_rfl) (by kernel_rfl) (by kernel_rfl) (fun _ _ _ h=>h) (Or.inl ⟨by rfl,by(intro w hSw;(try dsimp only at hSw);go_simp;try with_reducible rfl)⟩) (by assumption) ?_
   try simp only [Act.put,setIfInBounds_toArray,set_cons_zero,set_cons_succ]
   refine wpAnyH_ready (rs:=[8]) (by kernel_rfl) (by simp) ?_
   refine AllReadyH.cons (o:={ dst:=some 87,op:=Op.call { callee:=Callee.value (Operand.func 10),args:=#[Operand.tmp 86],argTypes:=#[27] },type:=9,pos:=_,after:=#[{ on:=7,ground:=Ground.data },{ on:=6,ground:=Ground.chain },{ on:=6,ground:=Ground.guard }],guard:=some (6,true) }) rfl (fun K hK=>?_) AllReadyH.nil
   go_simp
   refine(HFU.out _ hHeld.2).mono ?_
   rintro e wc2 ⟨rfl,hbm⟩
   refine hK.out _ _ (HK.out _ (below_step hHeld.2 hbm)) (fun hHeld2=>?_)
   clear hbm
   clear hK K hHeld;have hHeld:=hHeld2;clear hHeld2
   try simp only [Act.put,setIfInBounds_toArray,set_cons_zero,set_cons_succ]
   refine wpAnyH_ready (rs:=[10]) (by kernel_rfl) (by simp) ?_
   refine AllReadyH.cons (o:={ dst:=some 89,op:=Op.call { callee:=Callee.value (Operand.func 10),args:=#[Operand.tmp 88],argTypes:=#[27] },type:=9,pos:=_,after:=#[{ on:=9,ground:=Ground.data },{ on:=8,ground:=Ground.chain },{ on:=6,ground:=Ground.guard }],guard:=some (6,true) }) rfl (fun K hK=>?_) AllReadyH.nil
   go_simp
   refine(HFX.out _ hHeld.2).mono ?_
   rintro e wc3 ⟨rfl,hbm⟩
   refine hK.out _ _ (HK.out _ (below_step hHeld.2 hbm)) (fun hHeld2=>?_)
   clear hbm
   clear hK K hHeld;have hHeld:=hHeld2;clear hHeld2
   try simp only [Act.put,setIfInBounds_toArray,set_cons_zero,set_cons_succ]
   refine wpAnyH_take (i:=11) (oi:={dst:=some 90,op:=.binOp .neq 9 (.tmp 87) (.tmp 89) 9,type:=4,pos:=_,after:=#[{on:=8,ground:=.data},{on:=10,ground:=.data},{on:=6,ground:=.guard}],guard:=some (6,true)}) (v:=.bool false) rfl (by kernel_rfl) (by kernel_rfl) (by kernel_rfl) (fun _ _ _ h=>h) (Or.inl ⟨by rfl,by(intro w hSw;(try dsimp only at hSw);go_simp;try with_reducible rfl)⟩) (by assumption) ?_
   try simp only [Act.put,setIfInBounds_toArray,set_cons_zero,set_cons_succ]
   refine wpAnyH_take (i:=12) (oi:={dst:=some 91,op:=.pick (.tmp 85) (.tmp 90) (.const (.bool false)),type:=4,pos:=_,after:=#[{on:=6,ground:=.data},{on:=11,ground:=.data},{on:=4,ground:=.guard}],guard:=some (4,false)}) (v:=.bool false) rfl (by kernel_rfl) (by kernel_rfl) (by kernel_rfl) (fun _ _ _ h=>h) (Or.inl ⟨by rfl,by(intro w hSw;(try dsimp only at hSw);go_simp;try with_reducible rfl)⟩) (by assumption) ?_
   try simp only [Act.put,setIfInBounds_toArray,set_cons_zero,set_cons_succ]
   refine wpAnyH_take (i:=13) (oi:={dst:=some 92,op:=.pick (.tmp 83) (.const (.bool true)) (.tmp 91),type:=4,pos:=_,after:=#[{on:=4,ground:=.data},{on:=12,ground:=.data}],guard:=none}) (v:=.bool false) rfl (by kernel_rfl) (by kernel_rfl) (by kernel_rfl) (fun _ _ _ h=>h) (Or.inl ⟨by rfl,by(intro w hSw;(try dsimp only at hSw);go_simp;try with_reducible rfl)⟩) (by assumption) ?_
   try simp only [Act.put,setIfInBounds_toArray,set_cons_zero,set_cons_succ]
   refine wpAnyH_done (by kernel_rfl) ?_ _
   have hb:=hHeld.2
   replace HB:=Lib.hid (below_step HB.out hb)
   clear hHeld hb HK HIT HFX HX HU HT HUR n0 n1 CIT CFT CPT HFU
  all_goals
   go_wp2_with fail
   refine(HDN.out _ HB.out).mono ?_
   rintro e wy ⟨vy,x,ur,r,rfl,hoy,hdz,hr,hnr,hlr,hb⟩
   obtain⟨Ay,ny,cy,g1⟩:∃A n c,vy.vr=.slice A n c:=by obtain⟨A,c,hv,_⟩:=RowR.hasG hoy.rg;exact⟨A,_,c,hv⟩
   obtain⟨Fy,my,dy,g2⟩:∃A n c,vy.vn=.slice A n c:=by obtain⟨A,c,hv,_⟩:=Row.has hoy.nm;exact⟨A,_,c,hv⟩
   obtain⟨Ar,nr,cr,rfl⟩:∃A n c,ur=.slice A n c:=by obtain⟨A,c,hv,_⟩:=RowR.hasG hr;exact⟨A,_,c,hv⟩
   obtain⟨ky,ry,sy,py,qy⟩:=vy
   dsimp only at g1 g2
   subst g1 g2
   have HDX:=Lib.hid hdz
   have HLR:=Lib.hid hlr
   have hba:=below_al (Below.refl wy.heap.size wy) (.cells #[.int .i64 ky,.slice Ay ny cy,.slice Fy my dy,.string py,.string qy] 27)
   replace HB:=Lib.hid (below_step HB.out (below_step hb hba))
   have HKY:=Lib.hid hoy.k
   have HY:=Lib.hid (TB.new (hoy.mono (Nat.zero_le _)))
   have HR:=Lib.hid (RowR.below (RowR.mono hr (Nat.zero_le _)) hba)
   clear hoy hdz hr hnr hlr hb hba
   obtain⟨nT,c,may,is,zb,z,f1,f2,f3,f4,hc,FN⟩:=nar_facts x r s HS.out
   have HCS:=Lib.hid hc
   have CNA:Hid (∀W,TB W wy.heap.size 0 ky (.slice Ay ny cy) (.slice Fy my dy) py qy x→RowG 0 W (.slice Ar nr cr) r→Calls Tryz.prog 13 #[(⟨ky,.slice Ay ny cy,.slice Fy my dy,py,qy⟩:TyV).val,.slice Ar nr cr] W fun e w'=>∃v':TyV,e=.returned (.tuple #[v'.val,.bool may])∧OwnTy W.heap.size w' v' nT∧Below W.heap.size W w'):=Lib.hid fun W h hr=>by
    have:=iNarrow_any _ x (.slice Ar nr cr) r W h.1.has h.1.nm.capN h.1.nilTy (dr5_sz (dr5 HDX.out)) (Nat.le_trans HDX.out.1 (by omega)) (Nat.le_trans HDX.out.2.1 (by omega)) (RowR.hasG hr) (Nat.le_trans HLR.out (by omega))
    rw [f1,f2]at this;exact this
   have CCX:Hid (∀W,TB W wy.heap.size 0 ky (.slice Ay ny cy) (.slice Fy my dy) py qy x→Calls Tryz.prog 6 #[(⟨ky,.slice Ay ny cy,.slice Fy my dy,py,qy⟩:TyV).val,.string s] W fun e w'=>e=.returned (.tuple #[.string c,.bool is])∧Below W.heap.size W w'):=Lib.hid fun W h=>by
    have:=iCanon_any _ x s W h.1.has h.1.nm.capN (dr5_sz (dr5 HDX.out)) (Nat.le_trans HS.out (by omega))
    rw [f3]at this;exact this
   have CPI:Hid (∀W,Calls Tryz.prog 14 #[.string c] W fun e w'=>e=.returned (.tuple #[.int .i64 z,.bool zb])∧Below W.heap.size W w'):=Lib.hid fun W=>by
    have:=iParse_any c (by have:=HCS.out;unfold maxLen;omega) W
    rw [f4]at this;exact this
   have HNZ:Hid (TySz nT):=Lib.hid (by rw [←f1];exact narr_sz (dr5_sz (dr5 HDX.out)))
   have CIN:Hid (∀v W,OwnTy 0 W v nT→Calls Tryz.prog 11 #[v.val] W fun e w'=>e=.returned (.bool (isTyB nT))∧Below W.heap.size W w'):=Lib.hid fun v W h=>iIsTy_any v nT W h.has h.nm.capN HNZ.out
   have CVN:Hid (∀v W,OwnTy 0 W v nT→Calls Tryz.prog 8 #[v.val,.string c] W fun e w'=>e=.returned (.bool (isValB nT c))∧Below W.heap.size W w'):=Lib.hid fun v W h=>iIsVal_any v nT c W h.has h.nm.capN HNZ.out HCS.out
   have CRR:Hid (∀(y:Int) W,RowG 0 W (.slice Ar nr cr) r→Calls Tryz.prog 15 #[.slice Ar nr cr,.int .i64 y] W fun e w'=>e=.returned (.bool (inB r y))∧Below W.heap.size W w'):=Lib.hid fun y W h=>iInR_any _ r y W (RowR.hasG h)
   have HFN:Hid (may=true→isTyB nT=true∧(is=true→∀y:Int,(ky=1→y=z)→(¬ky=1→y=c.size)→isValB nT c=inB r y)):=Lib.hid (by have:=HKY.out;dsimp only at this;rw [this];exact FN)
   clear f1 f2 f3 f4 hc FN
   obtain⟨⟨c0,c1,c2,c3,c4⟩,-⟩:=five HY.out.2
   go_wp2_with fail
   refine(CNA.out _ HY.out HR.out).mono ?_
   rintro e wn ⟨vn,rfl,hon,hb⟩
   obtain⟨An,nn,cn,g1⟩:∃A n c,vn.vr=.slice A n c:=by obtain⟨A,c,hv,_⟩:=RowR.hasG hon.rg;exact⟨A,_,c,hv⟩
   obtain⟨Fn,mn,dn,g2⟩:∃A n c,vn.vn=.slice A n c:=by obtain⟨A,c,hv,_⟩:=Row.has hon.nm;exact⟨A,_,c,hv⟩
   obtain⟨kn,rn,sn,pn,qn⟩:=vn
   dsimp only at g1 g2
   subst g1 g2
   have hba:=below_al (Below.refl wn.heap.size wn) (.cells #[.int .i64 kn,.slice An nn cn,.slice Fn mn dn,.string pn,.string qn] 27)
   have hbE:=below_step hb hba
   have hyn:wy.heap.size<wn.heap.size:=Nat.lt_of_lt_of_le HY.out.lt hb.size
   replace HB:=Lib.hid (below_step HB.out hbE)
   replace HY:=Lib.hid (HY.out.below hbE)
   replace HR:=Lib.hid (RowR.below HR.out hbE)
   have HN:=Lib.hid (TB.new (hon.mono (Nat.zero_le _)))
   have HYn:=Lib.hid ((HY.out))
   clear hon hb hbE hba c0 c1 c2 c3 c4
   obtain⟨⟨c0,c1,c2,c3,c4⟩,-⟩:=five HY.out.2
   go_wp2_with fail
   refine(CCX.out _ HY.out).mono ?_
   rintro e wq ⟨rfl,hb⟩
   replace HB:=Lib.hid (below_step HB.out hb)
   replace HY:=Lib.hid (HY.out.below hb)
   replace HR:=Lib.hid (RowR.below HR.out hb)
   replace HN:=Lib.hid (HN.out.below hb)
   clear hb c0 c1 c2 c3 c4 CNA CCX hyn
   obtain⟨⟨c0,c1,c2,c3,c4⟩,-⟩:=five HY.out.2
   by_cases hk:ky=1
   case' pos=>
    subst hk
    go_wp2_with fail
    refine(CPI.out _).mono ?_
    rintro e wr ⟨rfl,hb⟩
    replace HB:=Lib.hid (below_step HB.out hb)
    replace HR:=Lib.hid (RowR.below HR.out hb)
    replace HN:=Lib.hid (HN.out.below hb)
    clear hb c0 c1 c2 c3 c4 CPI
    obtain⟨y,hy⟩:∃y,y=z:=⟨_,rfl⟩
    have HYE:=Lib.hid (fun hm hs=>(HFN.out hm).2 hs y (fun _=>hy) (fun h=>(h (by first|exact rfl|trivial)).elim))
    rw [←hy]
    clear hy
    have HTN:=Lib.hid (fun hm=>(HFN.out hm).1)
    clear HFN
   case' neg=>
    have hk2:(ky==1)=false:=by simpa using hk
    have hk3:decide (ky=1)=false:=by simpa using hk
    have HYE:=Lib.hid (fun hm hs=>(HFN.out hm).2 hs (c.size:Int) (fun h=>absurd h hk) (fun _=>rfl))
    have HTN:=Lib.hid (fun hm=>(HFN.out hm).1)
    clear HFN
   all_goals
    cases may
    ·go_wp2
     go_ret
     exact⟨rfl,HB.out⟩
    ·have htn:=HTN.out (by first|exact rfl|trivial)
     rw [htn]at CIN
     clear htn HTN
     obtain⟨⟨d0,d1,d2,d3,d4⟩,-⟩:=five HN.out.2
     go_wp2_with fail
     refine(CIN.out ⟨kn,.slice An nn cn,.slice Fn mn dn,pn,qn⟩ _ HN.out.1).mono ?_
     rintro e ws ⟨rfl,hb⟩
     replace HB:=Lib.hid (below_step HB.out hb)
     replace HR:=Lib.hid (RowR.below HR.out hb)
     replace HN:=Lib.hid (HN.out.below hb)
     clear hb d0 d1 d2 d3 d4 CIN
     cases is
     ·go_wp2
      go_ret
      exact⟨rfl,HB.out⟩
     ·have hye:=HYE.out (by first|exact rfl|trivial) (by first|exact rfl|trivial)
      rw [hye]at CVN
      clear hye HYE
      obtain⟨⟨d0,d1,d2,d3,d4⟩,-⟩:=five HN.out.2
      go_wp2_with fail
      refine(CVN.out ⟨kn,.slice An nn cn,.slice Fn mn dn,pn,qn⟩ _ HN.out.1).mono ?_
      rintro e wt ⟨rfl,hb⟩
      replace HB:=Lib.hid (below_step HB.out hb)
      replace HR:=Lib.hid (RowR.below HR.out hb)
      clear hb d0 d1 d2 d3 d4
      go_wp2_with fail
      refine(CRR.out _ _ HR.out).mono ?_
      rintro e wu ⟨rfl,hb⟩
      replace HB:=Lib.hid (below_step HB.out hb)
      clear hb
      go_wp2
      go_ret
      exact⟨rfl,HB.out⟩

/-! ### THE ROW's STEP -/
theorem lifted (os:Os)(started:os.Started)(H:Type)(enc:TypeId×Value→H):
  ReturnsInHanded {} Tryz.checked os 3 .any (fun w args=>(Rows.fnTypesSpec.pre enc Tryz.prog Tryz.f3 Rows.fnTypesRow.domain false w args∧laidMetH Tryz.prog Rows.fnTypesRow.laid w)∧sizedMet enc Tryz.prog Tryz.f3 (OpenSpec.ofChange Rows.fnTypesSpec) false w args) (Rows.fnTypesSpec.post enc Tryz.prog Tryz.f3 false true false false):=by
 refine returnsInHanded_of_change_and (C:=Tryz.checked) (X:=fun w _=>laidMetH Tryz.prog Rows.fnTypesRow.laid w) (fun _ _ _ hh h=>h.of_heap hh) own started (by kernel_rfl) Tryz.func3
  (ChangeSpec.witness_shaped (enc:=enc) (C:=Tryz.checked) (os:=os) (X:=fun w _=>laidMetH Tryz.prog Rows.fnTypesRow.laid w) false (World.laidAll Tryz.prog os Rows.fnTypesRow.laid) #[.slice none 0 0] 8 (World.laidAll_os _ _ _)
   (World.shaped_of_ZipB (by kernel_rfl) (by kernel_rfl)) (by kernel_rfl) (by kernel_rfl) (by kernel_rfl)
   (by rw [MakeChecks.laidMetH_plain _ _ _ (by kernel_rfl)];exact laidMet_laidAll _ (by kernel_rfl) (by kernel_rfl))) ?_
 intro W base args ds gs before hval0 hW hcnd _ hLaid _
 have hval:∀(j:Nat) t v,Tryz.f3.params[j]? =some t→args[j]? =some v→Value.okWide Tryz.prog W .any base t v:=hval0
 have hW':=hW
 obtain⟨p,q,hA0,hV,rfl,hfz,hnd⟩:=hW
 have hA:DataW.TrodAll enc Tryz.prog W 0 (fun _=>true) true Tryz.f3.params.toList args.toList ds p:=hA0
 rw [Tryz.params3]at hA hval
 obtain⟨v0,vs0,d0,ds0,p0,q0,hargs,rfl,rfl,h0,r0⟩:=trodAll_cons hA
 obtain⟨rfl,rfl,rfl⟩:=trodAll_nil r0
 obtain rfl:args=#[v0]:=by cases args;simp_all
 have hV' : DataW.TrodVars enc Tryz.prog W (fun _ => true) ["loop.example/g03013/impl.typeWords"] gs q := hV
 obtain⟨gg,tt,cs,fuel,dg,pg,rfl,hg,htt,hvar,hd,rfl⟩:=trodVars_one hV'
 have hgg:=Option.some.inj (gVar.symm.trans hg)
 subst hgg
 have hTab:∀i s,i<7→typeWs[i]? =some s→W.cell? ⟨0,i,none⟩=some (.string ⟨s.toArray⟩):=by
  obtain⟨g2,g3⟩:=gType
  rw [MakeChecks.laidMetH_plain _ _ _ (by kernel_rfl)]at hLaid
  exact fun i s=>strTab (ss:=typeWs) (Go.Lib.laidMet.reads hLaid (by simp [Rows.fnTypesRow];first|rfl|exact .inl rfl|exact .inr rfl|exact .inr (.inl rfl))) gVar g2 g3 Tryz.underlying9 (by kernel_rfl) i s
 have hltg:∀x∈pg,x.block<W.heap.size:=DataW.trod_lt fuel _ _ _ hd
 have hTrod:DataW.Trod enc Tryz.prog W 0 (fun _=>true) true tt (.agg cs) dg pg:=⟨fuel,hd⟩
 obtain⟨a0,len0,cap0,rfl⟩:=okWide_slice Tryz.underlying22 (hval 0 22 v0 rfl rfl)
 have k0:=h0
 have lt0:∀x∈p0,x.block<W.heap.size:=by obtain⟨m,hm⟩:=k0;exact DataW.trod_lt m _ _ _ hm
 have w0:Src W a0 len0:=by
  obtain⟨fuel,hf⟩:=h0
  rcases open_ints Tryz.underlying22 Tryz.underlying5 (by kernel_rfl) hf with ⟨hcs,_⟩|⟨x,l,c,zs,hcs,_,hl,hm,hz,_,hcell,hwz⟩
  ·simp [Value.cells]at hcs
   obtain⟨rfl,rfl,rfl⟩:=hcs
   exact src_of (.inl ⟨rfl,rfl,rfl,rfl⟩)
  ·simp [Value.cells]at hcs
   obtain⟨rfl,rfl,rfl⟩:=hcs
   exact src_of (.inr ⟨_,rfl,hl,hm,by simpa using hz,hcell,hwz⟩)
 clear hA0 hval0
 refine(walk a0 len0 cap0 W w0 hTab).mono fun e W' ⟨he,bel⟩=>?_
 subst he
 obtain⟨g2,g3⟩:=gType
 obtain rfl:=Option.some.inj (g2.symm.trans htt)
 obtain⟨fuel2,hd2⟩:=Below.trod laidOut (by kernel_rfl) (of_decide_eq_true (by kernel_rfl)) hTrod bel hltg
 exact⟨_,rfl,_,_,_,[],_,_,hW',trodAll_mk1 (shut_bool Tryz.underlying4 _),(trodAll_cons_mk (Below.trod laidOut (by kernel_rfl) (of_decide_eq_true (by kernel_rfl)) k0 bel lt0) trodAll_mk0),trodVars_mk1 hg htt (var?_below hg hvar bel) hd2,bel.frame _,fun h=>by cases h⟩

theorem over:Rows.fnTypesRow.holds Tryz.pinned (OpenSpec.ofChange Rows.fnTypesSpec):=
 OpenClaim.holds_of_wide 3 Tryz.f3 rfl rfl rfl rfl rfl rfl rfl ⟨rfl,rfl,rfl,rfl,rfl⟩ rfl rfl rfl rfl rfl (by kernel_rfl) Tryz.func3 (by kernel_rfl)
  (of_decide_eq_true (by kernel_rfl)) (by unfold Func.isWrapper;first|(rw [if_pos (by decide+kernel)];kernel_rfl)|(rw [if_neg (by decide+kernel)];exact⟨rfl,rfl⟩))
  (fun os started H enc _=>lifted os started H enc)

theorem plain (f : FuncId)(fn : Func)(hf : Tryz.pinned.checked.prog.funcNamed "loop.example/g03013/laws.FnTypes" = some f)(hfn : Tryz.pinned.checked.prog.funcs[f]? = some fn) :
  true=Tryz.pinned.checked.prog.looks []∧∀(j:Nat) t,fn.params[j]? =some t→Tryz.pinned.checked.prog.wantsStandIn t=false:=by
 obtain rfl : f = 3 := Option.some.inj ((show Tryz.prog.funcNamed "loop.example/g03013/laws.FnTypes" = some 3 by kernel_rfl).symm.trans hf) |>.symm
 obtain rfl:fn=Tryz.f3:=(Option.some.inj (Tryz.func3.symm.trans hfn)).symm
 refine⟨by kernel_rfl,fun j t ht=>?_⟩
 rw [Tryz.params3]at ht
 have hm:t∈[22]:=by simpa using Array.mem_of_getElem? ht
 have hall:([22].all fun u=>!Tryz.prog.wantsStandIn u)=true:=by kernel_rfl
 exact(show Tryz.prog.wantsStandIn t=false by simpa using List.all_eq_true.1 hall t hm)
theorem proved:Rows.FnTypesCardSaid:=
 Claim7.holds_tied_plain_at .later [] _ _ _ _ over (fun _ h=>by cases h) (by kernel_rfl) (fun _ h=>by cases h) fnTypes_row_tie rfl ⟨rfl,rfl⟩ (by kernel_rfl) rfl plain (by kernel_rfl)
#print axioms proved
end Go.Proofs.YtecladbckadijaaGreatDoor.fnTypes
