/- MERGED for a claim. -/
import Derived.Test.YtecladbckadijaaGreatDoorTyA
import Derived.ChangeAlike
import Derived.BigRegion
import Derived.Shelf.SlSortCmp.Kit1
import Derived.Sort.AssemblyPlain
import Derived.Sort.LotD4
import Derived.Deep.LoopGhost
set_option linter.unusedVariables false
set_option linter.unusedSimpArgs false
set_option maxRecDepth 100000
set_option maxHeartbeats 16000000
namespace Go.Proofs.YtecladbckadijaaGreatDoor
open Go.Lib (hid)
section
open Go.RowKit

def CapN (v:Value):Prop:=∀A n c,v=.slice A n c→n≤c
theorem Row.capN {B:Nat}{w:World}{v:Value}{l:List ByteArray}(h:Row B w v l):CapN v:=by
  intro A n c e
  rcases h.form with ⟨e',_⟩|⟨g,cap,e',_⟩
  · rw [e']at e;cases e;exact Nat.le_refl _
  · subst e';cases e;exact h.cap.2
noncomputable def enumB (l:List ByteArray):Bool:=decide (0<l.length∧l.length≤6)&&namesB l
theorem enum_any (v:Value)(l:List ByteArray)(w:World)(hv:Has w v l)(hcap:CapN v)(hs:∀s∈l,s.size≤1048576):
    Calls Tryz.prog 92 #[v] w fun e w'=>e=.returned (.bool (enumB l))∧w=w':=by
  have HT:=Lib.hid (fun A c k n (h:v=.slice A n c) (hk:k≤n) (s:ByteArray)=>containsB_any (.slice A k c) (l.take k) s w (has_take (h▸hv) hk))
  obtain⟨A,cap,rfl,hn',hc⟩:=hv
  obtain⟨n,hnn⟩:∃n,n=l.length:=⟨_,rfl⟩
  have HN:Hid (n=l.length):=Lib.hid hnn
  have hnc:=hcap A l.length cap rfl
  clear hcap
  rw [←hnn]at hn' HT hnc ⊢
  clear hnn
  by_cases h0:n=0
  · have z1:(n==0)=true:=by simp [h0]
    have z2:((n:Int)==0)=true:=by simp [h0]
    have z3:decide ((6:Int)<(n:Int))=false:=by simp;omega
    have HE:Hid (enumB l=false):=Lib.hid (by unfold enumB;rw [←HN.out,h0];rfl)
    clear hc
    go_enter Tryz.func92,Tryz.ntmps92
    go_wp2
    go_ret
    exact⟨ret_bool HE.out.symm,rfl⟩
  · have h0':((n:Int)==0)=false:=by simp;omega
    have z1:(n==0)=false:=by simp [h0]
    by_cases h6:6<n
    · have HE:Hid (enumB l=false):=Lib.hid (by unfold enumB;rw [←HN.out];simp;omega)
      have z3:decide ((6:Int)<(n:Int))=true:=by simp;omega
      clear hc
      go_enter Tryz.func92,Tryz.ntmps92
      go_wp2
      go_ret
      exact⟨ret_bool HE.out.symm,rfl⟩
    · have h6':decide ((6:Int)<(n:Int))=false:=by simp;omega
      have HE : Hid (∀ b, namesB l = b → enumB l = b) := Lib.hid (fun b hb => by unfold enumB; rw [← HN.out, hb]; have : decide (0 < n ∧ n ≤ 6) = true := by simp; omega
                                                                                 rw [this];rfl)
      go_enter Tryz.func92,Tryz.ntmps92
      go_wp2
      go_loop [15] (fun i=>∃k:Nat,k≤n∧i=.int .i64 k∧Hid (NamesOk l k)) (fun i=>n-(intOf i).toNat)
      case atStart=>exact⟨0,Nat.zero_le _,rfl,Lib.hid (names_zero l)⟩
      case round=>
        obtain⟨k,hk,rfl,HI⟩:=hrel
        by_cases hlt:k<n
        · have hlk:k<l.length:=by rw [←HN.out];exact hlt
          obtain⟨a,rfl,hab,hcell⟩:=hc k hlk
          have HNM:=Lib.hid (fun w=>iIsName_any l[k] (by have:=hs _ (List.getElem_mem hlk);unfold maxLen;omega) w)
          have HCT:=Lib.hid (HT.out (some a) cap k n rfl hk l[k])
          obtain⟨x,hx⟩:∃x,x=l[k]:=⟨_,rfl⟩
          rw [←hx]at hcell HNM HCT
          have HX:=Lib.hid hx
          have hkc:(k:Int)≤(cap:Int):=by omega
          clear hx hc HT hs
          obtain⟨q,hq⟩:∃q,q=nameB x:=⟨_,rfl⟩
          have HQ:=Lib.hid hq
          rw [←hq]at HNM
          clear hq
          cases q with
          | false =>
            have HB:=Lib.hid (HE.out false (names_bad hlk (by rw [←HX.out];exact HQ.out.symm)))
            go_wp2_with (first|(go_at_call 114;refine(HNM.out _).mono ?_;rintro e w' ⟨rfl,rfl⟩))
            go_ret
            exact⟨ret_bool HB.out.symm,rfl⟩
          | true =>
            obtain⟨b,hb⟩:∃b,b=memB x (l.take k):=⟨_,rfl⟩
            have HB:=Lib.hid hb
            rw [←hb]at HCT
            clear hb
            cases b with
            | true =>
              have HE2:Hid (enumB l=false):=Lib.hid (HE.out false (by
                obtain⟨j,hj,hjk,e⟩:=mem_take' ((mem_iff _ _).1 HB.out.symm)
                exact names_twice hj hlk hjk (by rw [e,HX.out])))
              go_wp2_with (first|(go_at_call 114;refine(HNM.out _).mono ?_;rintro e w' ⟨rfl,rfl⟩)|(go_at_call 23;refine(HCT.out).mono ?_;rintro e w' ⟨rfl,rfl⟩))
              go_ret
              exact⟨ret_bool HE2.out.symm,rfl⟩
            | false =>
              have HJ:Hid (NamesOk l (k+1)):=Lib.hid (names_step hlk HI.out (by rw [←HX.out];exact HQ.out.symm) fun j hj hjk e=>by
                have:=(mem_iff x (l.take k)).2 (by rw [HX.out,←e];exact take_mem' hj hjk)
                rw [←HB.out]at this;cases this)
              go_wp2_with (first|(go_at_call 114;refine(HNM.out _).mono ?_;rintro e w' ⟨rfl,rfl⟩)|(go_at_call 23;refine(HCT.out).mono ?_;rintro e w' ⟨rfl,rfl⟩))
              go_round
              case rel=>exact⟨k+1,by omega,by go_num,HJ⟩
              case measure=>simp [intOf];omega
        · have HB:=Lib.hid (HE.out true (names_yes (by have:=HI.out;rwa [show k=l.length by have:=HN.out;omega]at this)))
          go_wp2
          go_ret
          exact⟨ret_bool HB.out.symm,rfl⟩
theorem em_ne {s:ByteArray}(h:s.size≠0):s≠⟨#[]⟩:=by rintro rfl;exact h rfl
theorem em_eq {s:ByteArray}(h:s.size=0):s=⟨#[]⟩:=by
  cases s with
  | mk d=>rw [show d=#[]from Array.eq_empty_of_size_eq_zero h]
def emB (s:ByteArray):Bool:=s.size==0
theorem em_cases (s:ByteArray):s=⟨#[]⟩∨((s.toList==(⟨#[]⟩:ByteArray).toList)=false∧s.toList.isEmpty=false∧¬s.toList=[]∧emB s=false):=by
  by_cases h:s.size=0
  · exact .inl (em_eq h)
  · have h1:=str_ne (em_ne h)
    have h2:¬s.toList=[]:=by
      intro e
      rw [ByteArray.toList_eq]at e
      apply h
      have:s.data.toList.length=0:=by rw [e];rfl
      simpa using this
    refine .inr ⟨h1,?_,h2,beq_eq_false_iff_ne.2 h⟩
    cases hh:s.toList with
    | nil=>exact absurd hh h2
    | cons _ _=>rfl
theorem filled_any (s:ByteArray)(hs:s.size≤1048576)(w:World):
    Calls Tryz.prog 24 #[.string s] w fun e w'=>e=.returned (.bool (!emB s&&textB s))∧w=w':=by
  have HC:=Lib.hid (fun w=>iIsText_any s (by unfold maxLen;omega) w)
  rcases em_cases s with rfl|⟨h1,h2,h3,h4⟩
  · go_enter Tryz.func24,Tryz.ntmps24
    go_wp2
    go_ret
    exact⟨rfl,rfl⟩
  · go_enter Tryz.func24,Tryz.ntmps24
    go_wp2_with (first|(go_at_call 52;refine(HC.out _).mono ?_;rintro e w' ⟨rfl,rfl⟩))
    go_ret
    exact⟨ret_bool (by rw [h4];rfl),rfl⟩
def bareB (t:Ty):Bool:=decide (t.rg.length=0)&&decide (t.nm.length=0)&&emB t.pt&&emB t.ph
theorem fields_any (v:TyV)(t:Ty)(w:World)(h:HasTy w v t):
    Calls Tryz.prog 50 #[v.val] w fun e w'=>e=.returned (.bool (!bareB t))∧Below w.heap.size w w':=by
  obtain⟨k,rg,nm,pt,ph⟩:=t
  obtain⟨k',vr,vn,pt',ph'⟩:=v
  obtain⟨rfl,hr,hn,rfl,rfl⟩:=h
  dsimp only at hr hn ⊢
  obtain⟨A,c,rfl,hn1,_⟩:=hr
  obtain⟨A',c',rfl,hn2,_⟩:=hn
  obtain⟨n,hnn⟩:∃n,n=rg.length:=⟨_,rfl⟩
  obtain⟨m,hmm⟩:∃m,m=nm.length:=⟨_,rfl⟩
  have HB:Hid (bareB ⟨k',rg,nm,pt',ph'⟩=(decide (n=0)&&decide (m=0)&&emB pt'&&emB ph')):=Lib.hid (by rw [hnn,hmm];rfl)
  rw [←hnn]at hn1 ⊢
  rw [←hmm]at hn2 ⊢
  clear hnn hmm
  have hb0:Below w.heap.size w (w.alloc (.cells #[.int .i64 k',.slice A n c,.slice A' m c',.string pt',.string ph'] 27)):=below_al (Below.refl _ _) _
  by_cases h0:0<n
  · go_enter Tryz.func50,Tryz.ntmps50
    go_wp2
    go_ret
    exact⟨ret_bool (by rw [HB.out];simp;omega),hb0⟩
  · obtain rfl:n=0:=by omega
    by_cases h1:0<m
    · go_enter Tryz.func50,Tryz.ntmps50
      go_wp2
      go_ret
      exact⟨ret_bool (by rw [HB.out];simp;omega),hb0⟩
    · obtain rfl:m=0:=by omega
      rcases em_cases pt' with rfl|⟨h1,h2,h3,h4⟩
      · rcases em_cases ph' with rfl|⟨h1,h2,h3,h4⟩
        · go_enter Tryz.func50,Tryz.ntmps50
          go_wp2
          go_ret
          exact⟨ret_bool (by rw [HB.out];rfl),hb0⟩
        · go_enter Tryz.func50,Tryz.ntmps50
          go_wp2
          go_ret
          exact⟨ret_bool (by rw [HB.out,h4];rfl),hb0⟩
      · go_enter Tryz.func50,Tryz.ntmps50
        go_wp2
        go_ret
        exact⟨ret_bool (by rw [HB.out,h4];rfl),hb0⟩
end
section
open Go.RowKit

def restV (v:TyV):TyV:=
 if v.k=1 then { v with vr:=.slice none 0 0 }
 else if v.k=2 then { v with vr:=.slice none 0 0,pt:=⟨#[]⟩ }
 else if v.k=4 then { v with vn:=.slice none 0 0 }
 else if v.k=5 then { v with ph:=⟨#[]⟩ }
 else v
def kindV (v:TyV):Value:=
 if v.k=1 then .iface 49 (.agg #[v.vr])
 else if v.k=2 then .iface 52 (.agg #[v.vr,.string v.pt])
 else if v.k=3 then .iface 55 (.agg #[])
 else if v.k=4 then .iface 58 (.agg #[v.vn])
 else if v.k=5 then .iface 61 (.agg #[.string v.ph])
 else if v.k=6 then .iface 63 (.agg #[])
 else .nilIface
theorem divide_1 (A A':Option Addr)(n c m c':Nat)(pt ph:ByteArray)(w:World):
  Calls Tryz.prog 49 #[(⟨1,.slice A n c,.slice A' m c',pt,ph⟩:TyV).val] w fun e w'=>e=.returned (.tuple #[.iface 49 (.agg #[.slice A n c]),(⟨1,.slice none 0 0,.slice A' m c',pt,ph⟩:TyV).val])∧Below w.heap.size w w':=by
 have HB0:=below_al (below_al (below_al (Below.refl w.heap.size w) (.cells #[.int .i64 1,.slice A n c,.slice A' m c',.string pt,.string ph] 27)) (.cells #[.int .i64 1,.slice none 0 0,.slice A' m c',.string pt,.string ph] 27)) (.cells #[.int .i64 1,.slice none 0 0,.slice A' m c',.string pt,.string ph] 27)
 go_enter Tryz.func49,Tryz.ntmps49
 go_wp2
 go_region
 go_wp2
 refine bodyPost_ret (v:=.tuple #[.iface 49 (.agg #[.slice A n c]),(⟨1,.slice none 0 0,.slice A' m c',pt,ph⟩:TyV).val]) (by simp [results,Tryz.results49,go_sem]) rfl ?_
 exact⟨rfl,below_drewN HB0 1⟩
theorem divide_2 (A A':Option Addr)(n c m c':Nat)(pt ph:ByteArray)(w:World):
  Calls Tryz.prog 49 #[(⟨2,.slice A n c,.slice A' m c',pt,ph⟩:TyV).val] w fun e w'=>e=.returned (.tuple #[.iface 52 (.agg #[.slice A n c,.string pt]),(⟨2,.slice none 0 0,.slice A' m c',⟨#[]⟩,ph⟩:TyV).val])∧Below w.heap.size w w':=by
 have HB0:=below_al (below_al (below_al (Below.refl w.heap.size w) (.cells #[.int .i64 2,.slice A n c,.slice A' m c',.string pt,.string ph] 27)) (.cells #[.int .i64 2,.slice none 0 0,.slice A' m c',.string ⟨#[]⟩,.string ph] 27)) (.cells #[.int .i64 2,.slice none 0 0,.slice A' m c',.string ⟨#[]⟩,.string ph] 27)
 go_enter Tryz.func49,Tryz.ntmps49
 go_wp2
 go_region
 go_wp2
 refine bodyPost_ret (v:=.tuple #[.iface 52 (.agg #[.slice A n c,.string pt]),(⟨2,.slice none 0 0,.slice A' m c',⟨#[]⟩,ph⟩:TyV).val]) (by simp [results,Tryz.results49,go_sem]) rfl ?_
 exact⟨rfl,below_drewN HB0 1⟩
theorem divide_3 (A A':Option Addr)(n c m c':Nat)(pt ph:ByteArray)(w:World):
  Calls Tryz.prog 49 #[(⟨3,.slice A n c,.slice A' m c',pt,ph⟩:TyV).val] w fun e w'=>e=.returned (.tuple #[.iface 55 (.agg #[]),(⟨3,.slice A n c,.slice A' m c',pt,ph⟩:TyV).val])∧Below w.heap.size w w':=by
 have HB0:=below_al (below_al (below_al (Below.refl w.heap.size w) (.cells #[.int .i64 3,.slice A n c,.slice A' m c',.string pt,.string ph] 27)) (.cells #[.int .i64 3,.slice A n c,.slice A' m c',.string pt,.string ph] 27)) (.cells #[.int .i64 3,.slice A n c,.slice A' m c',.string pt,.string ph] 27)
 go_enter Tryz.func49,Tryz.ntmps49
 go_wp2
 go_region
 go_wp2
 refine bodyPost_ret (v:=.tuple #[.iface 55 (.agg #[]),(⟨3,.slice A n c,.slice A' m c',pt,ph⟩:TyV).val]) (by simp [results,Tryz.results49,go_sem]) rfl ?_
 exact⟨rfl,below_drewN HB0 1⟩
theorem divide_4 (A A':Option Addr)(n c m c':Nat)(pt ph:ByteArray)(w:World):
  Calls Tryz.prog 49 #[(⟨4,.slice A n c,.slice A' m c',pt,ph⟩:TyV).val] w fun e w'=>e=.returned (.tuple #[.iface 58 (.agg #[.slice A' m c']),(⟨4,.slice A n c,.slice none 0 0,pt,ph⟩:TyV).val])∧Below w.heap.size w w':=by
 have HB0:=below_al (below_al (below_al (Below.refl w.heap.size w) (.cells #[.int .i64 4,.slice A n c,.slice A' m c',.string pt,.string ph] 27)) (.cells #[.int .i64 4,.slice A n c,.slice none 0 0,.string pt,.string ph] 27)) (.cells #[.int .i64 4,.slice A n c,.slice none 0 0,.string pt,.string ph] 27)
 go_enter Tryz.func49,Tryz.ntmps49
 go_wp2
 go_region
 go_wp2
 refine bodyPost_ret (v:=.tuple #[.iface 58 (.agg #[.slice A' m c']),(⟨4,.slice A n c,.slice none 0 0,pt,ph⟩:TyV).val]) (by simp [results,Tryz.results49,go_sem]) rfl ?_
 exact⟨rfl,below_drewN HB0 1⟩
theorem divide_5 (A A':Option Addr)(n c m c':Nat)(pt ph:ByteArray)(w:World):
  Calls Tryz.prog 49 #[(⟨5,.slice A n c,.slice A' m c',pt,ph⟩:TyV).val] w fun e w'=>e=.returned (.tuple #[.iface 61 (.agg #[.string ph]),(⟨5,.slice A n c,.slice A' m c',pt,⟨#[]⟩⟩:TyV).val])∧Below w.heap.size w w':=by
 have HB0:=below_al (below_al (below_al (Below.refl w.heap.size w) (.cells #[.int .i64 5,.slice A n c,.slice A' m c',.string pt,.string ph] 27)) (.cells #[.int .i64 5,.slice A n c,.slice A' m c',.string pt,.string ⟨#[]⟩] 27)) (.cells #[.int .i64 5,.slice A n c,.slice A' m c',.string pt,.string ⟨#[]⟩] 27)
 go_enter Tryz.func49,Tryz.ntmps49
 go_wp2
 go_region
 go_wp2
 refine bodyPost_ret (v:=.tuple #[.iface 61 (.agg #[.string ph]),(⟨5,.slice A n c,.slice A' m c',pt,⟨#[]⟩⟩:TyV).val]) (by simp [results,Tryz.results49,go_sem]) rfl ?_
 exact⟨rfl,below_drewN HB0 1⟩
theorem divide_6 (A A':Option Addr)(n c m c':Nat)(pt ph:ByteArray)(w:World):
  Calls Tryz.prog 49 #[(⟨6,.slice A n c,.slice A' m c',pt,ph⟩:TyV).val] w fun e w'=>e=.returned (.tuple #[.iface 63 (.agg #[]),(⟨6,.slice A n c,.slice A' m c',pt,ph⟩:TyV).val])∧Below w.heap.size w w':=by
 have HB0:=below_al (below_al (below_al (Below.refl w.heap.size w) (.cells #[.int .i64 6,.slice A n c,.slice A' m c',.string pt,.string ph] 27)) (.cells #[.int .i64 6,.slice A n c,.slice A' m c',.string pt,.string ph] 27)) (.cells #[.int .i64 6,.slice A n c,.slice A' m c',.string pt,.string ph] 27)
 go_enter Tryz.func49,Tryz.ntmps49
 go_wp2
 go_region
 go_wp2
 refine bodyPost_ret (v:=.tuple #[.iface 63 (.agg #[]),(⟨6,.slice A n c,.slice A' m c',pt,ph⟩:TyV).val]) (by simp [results,Tryz.results49,go_sem]) rfl ?_
 exact⟨rfl,below_drewN HB0 1⟩
theorem divide_other (A A':Option Addr)(n c m c':Nat)(pt ph:ByteArray)(w:World)(k:Int)(h:k≠1∧k≠2∧k≠3∧k≠4∧k≠5∧k≠6):
  Calls Tryz.prog 49 #[(⟨k,.slice A n c,.slice A' m c',pt,ph⟩:TyV).val] w fun e w'=>e=.returned (.tuple #[.nilIface,(⟨k,.slice A n c,.slice A' m c',pt,ph⟩:TyV).val])∧Below w.heap.size w w':=by
 have HB0:=below_al (below_al (below_al (Below.refl w.heap.size w) (.cells #[.int .i64 k,.slice A n c,.slice A' m c',.string pt,.string ph] 27)) (.cells #[.int .i64 k,.slice A n c,.slice A' m c',.string pt,.string ph] 27)) (.cells #[.int .i64 k,.slice A n c,.slice A' m c',.string pt,.string ph] 27)
 obtain⟨h1,h2,h3,h4,h5,h6⟩:=h
 have e1:(k==1)=false:=beq_eq_false_iff_ne.2 h1
 have e2:(k==2)=false:=beq_eq_false_iff_ne.2 h2
 have e3:(k==3)=false:=beq_eq_false_iff_ne.2 h3
 have e4:(k==4)=false:=beq_eq_false_iff_ne.2 h4
 have e5:(k==5)=false:=beq_eq_false_iff_ne.2 h5
 have e6:(k==6)=false:=beq_eq_false_iff_ne.2 h6
 go_enter Tryz.func49,Tryz.ntmps49
 go_wp2
 go_region
 go_wp2
 refine bodyPost_ret (v:=.tuple #[.nilIface,(⟨k,.slice A n c,.slice A' m c',pt,ph⟩:TyV).val]) (by simp [results,Tryz.results49,go_sem]) rfl ?_
 exact⟨rfl,below_drewN HB0 1⟩
theorem divide_any (v:TyV)(A A':Option Addr)(n c m c':Nat)(h1:v.vr=.slice A n c)(h2:v.vn=.slice A' m c')(w:World):
  Calls Tryz.prog 49 #[v.val] w fun e w'=>e=.returned (.tuple #[kindV v,(restV v).val])∧Below w.heap.size w w':=by
 obtain⟨k,vr,vn,pt,ph⟩:=v
 obtain rfl:vr=_:=h1
 obtain rfl:vn=_:=h2
 by_cases k1:k=1
 ·subst k1;exact divide_1 A A' n c m c' pt ph w
 by_cases k2:k=2
 ·subst k2;exact divide_2 A A' n c m c' pt ph w
 by_cases k3:k=3
 ·subst k3;exact divide_3 A A' n c m c' pt ph w
 by_cases k4:k=4
 ·subst k4;exact divide_4 A A' n c m c' pt ph w
 by_cases k5:k=5
 ·subst k5;exact divide_5 A A' n c m c' pt ph w
 by_cases k6:k=6
 ·subst k6;exact divide_6 A A' n c m c' pt ph w
 have:=divide_other A A' n c m c' pt ph w k ⟨k1,k2,k3,k4,k5,k6⟩
 rw [show kindV ⟨k,.slice A n c,.slice A' m c',pt,ph⟩=.nilIface by unfold kindV;simp only [k1,k2,k3,k4,k5,k6,if_false],show restV ⟨k,.slice A n c,.slice A' m c',pt,ph⟩=⟨k,.slice A n c,.slice A' m c',pt,ph⟩by unfold restV;simp only [k1,k2,k4,k5,if_false]]
 exact this
end
section
open Go.RowKit Go.Sort

def encB (z:Int):Value:=.int .u8 z
theorem encB_one:OneCell encB:=fun _=>rfl
abbrev SB (w0:World)(blk off:Nat)(d:Array Int)(W:World):Prop:=SW encB w0 blk off d W
abbrev RB (w0:World)(blk off:Nat)(d0:Array Int):Prop:=Row1 encB w0 blk off d0
theorem sb_cell {w0 W:World}{blk off:Nat}{d0 dk:Array Int}(h:SW encB w0 blk off dk W)(R:Row1 encB w0 blk off d0)(hs:dk.size=d0.size)(i:Nat)(hi:i<dk.size):W.cell? ⟨blk,off+i,none⟩=some (.int .u8 dk[i]!):=h.c1 R hs i hi
theorem sb_swap {w0 W:World}{blk off:Nat}{d0 dk:Array Int}(h:SW encB w0 blk off dk W)(R:Row1 encB w0 blk off d0)(i j:Nat)(hi:i<dk.size)(hj:j<dk.size):
  SW encB w0 blk off (swp dk i j) ((W.setCell ⟨blk,off+i,none⟩ (.int .u8 dk[j]!)).setCell ⟨blk,off+j,none⟩ (.int .u8 dk[i]!)).drew:=h.swapped R i j hi hj
theorem nan_any (x:Int)(w:World):Calls Tryz.prog 210 #[.int .u8 x] w fun e w'=>e=.returned (.bool false)∧w=w':=by
 have h:((x != x):Bool)=false:=by simp
 go_enter Tryz.func210,Tryz.ntmps210
 go_wp2
 go_ret
 exact⟨rfl,rfl⟩
theorem less_any (x y:Int)(w:World):Calls Tryz.prog 204 #[.int .u8 x,.int .u8 y] w fun e w'=>e=.returned (.bool (ltInt x y))∧w=w':=by
 have h:ltInt x y=decide (x<y):=rfl
 rw [h]
 clear h
 go_enter Tryz.func204,Tryz.ntmps204
 go_wp2_with (go_at_call 210;refine(nan_any _ _).mono ?_;rintro e w' ⟨rfl,rfl⟩)
 go_ret
 exact⟨rfl,rfl⟩
theorem less_q (x y:Int)(b:Bool)(h:ltInt x y=b)(w:World):Calls Tryz.prog 204 #[.int .u8 x,.int .u8 y] w fun e w'=>e=.returned (.bool b)∧w'=w:=
 (less_any x y w).mono fun _ _ ⟨he,hw⟩=>⟨by rw [he,h],hw.symm⟩
end
section
open Go.RowKit Go.Sort

section
variable {α:Type} [Inhabited α] (lt:α→α→Bool)
theorem insInner_go1 (a j:Nat)(d:Array α)(haj:a<j+1)(h:lt d[j+1]! d[j]! =true):insInner lt a (j+1) d=insInner lt a j (swp d (j+1) j):=by
 rw [insInner,h];simp [haj]
theorem insInner_stop1 (a j:Nat)(d:Array α)(h:j≤a∨∃q,j=q+1∧lt d[q+1]! d[q]! =false):insInner lt a j d=d:=by
 cases j with
 | zero=>rfl
 | succ j =>
  rw [insInner]
  rcases h with h|⟨q,e,h⟩
  ·rw [show decide (j+1>a)=false by simp;omega];rfl
  ·obtain rfl:j=q:=by omega
   rw [h];simp
theorem insOuter_step (a b i:Nat)(d:Array α)(h:i<b):insOuter lt a b i d=insOuter lt a b (i+1) (insInner lt a i d):=by rw [insOuter,if_pos h]
theorem insOuter_end (a b i:Nat)(d:Array α)(h:¬i<b):insOuter lt a b i d=d:=by rw [insOuter,if_neg h]
theorem reverseLoop_step (i j:Nat)(d:Array α)(h:i<j):reverseLoop i j d=reverseLoop (i+1) (j-1) (swp d i j):=by rw [reverseLoop,if_pos h]
theorem reverseLoop_end (i j:Nat)(d:Array α)(h:¬i<j):reverseLoop i j d=d:=by rw [reverseLoop,if_neg h]
end
theorem ins_any (blk off cap a b n:Nat)(d0 d:Array Int)(w0 w:World)(R:RB w0 blk off d0)(hs0:d0.size=n)(hsd:d.size=n)(S:SB w0 blk off d w)(hab:a≤b)(hb:b≤n)(hsz:n<4611686018427387904):
  Calls Tryz.prog 198 #[.slice (some ⟨blk,off,none⟩) n cap,.int .i64 a,.int .i64 b] w fun e w'=>e=.returned (.tuple #[])∧SB w0 blk off (insertionSort ltInt d a b) w':=by
 have S0:=hid S
 clear S
 go_enter Tryz.func198,Tryz.ntmps198
 go_wp2
 go_loopg [6] (b+1-a) (fun g1 vi wr=>∃(i:Nat) (dk:Array Int),vi=.int .i64 i∧a<i∧i≤b+1∧b+1-i≤g1∧dk.size=n∧Hid (SB w0 blk off dk wr)∧Hid (insOuter ltInt a b i dk=insOuter ltInt a b (a+1) d))
 case atStart=>exact⟨a+1,d,by go_num,by omega,by omega,by omega,hsd,S0,hid rfl⟩
 case round=>
  clear S0
  obtain⟨i,dk,rfl,hai,hib,hg1,hsk,S1,HO⟩:=hrel
  by_cases hlt:i<b
  ·have hltz:(i:Int)<(b:Int):=by omega
   go_wp2
   go_loopg [7] i (fun g2 vj wr2=>∃(j:Nat) (dj:Array Int),vj=.int .i64 j∧a≤j∧j≤i∧j≤g2∧dj.size=n∧Hid (SB w0 blk off dj wr2)∧Hid (insInner ltInt a j dj=insInner ltInt a i dk))
   case atStart=>exact⟨i,dk,rfl,by omega,Nat.le_refl _,Nat.le_refl _,hsk,S1,hid rfl⟩
   case round=>
    clear S1
    obtain⟨j,dj,rfl,haj,hji,hg2,hsj,SJ,HI⟩:=hrel
    have OUT:Hid ((j≤a∨∃q,j=q+1∧ltInt dj[q+1]! dj[q]! =false)→insOuter ltInt a b (i+1) dj=insOuter ltInt a b (a+1) d):=hid (fun hs=>(congrArg (insOuter ltInt a b (i+1)) ((insInner_stop1 _ _ _ _ hs).symm.trans HI.out)).trans ((insOuter_step _ a b i dk hlt).symm.trans HO.out))
    by_cases hja:a<j
    ·obtain⟨jp,rfl⟩:∃q,j=q+1:=⟨j-1,by omega⟩
     have hja1:decide ((a:Int)<(jp:Int)+1)=true:=by simp;omega
     have hja2:(a:Int)<(jp:Int)+1:=by omega
     cases hlv:ltInt dj[jp+1]! dj[jp]! with
     | true =>
      have HGO:=hid (insInner_go1 ltInt a jp dj (by omega) hlv)
      obtain⟨iNA,hiNA⟩:∃zq,zq=jp+1:=⟨_,rfl⟩
      have eiA:((jp:Int)+1).toNat=iNA:=by omega
      have piA:(0:Int)≤(jp:Int)+1:=by omega
      have biA:(jp:Int)+1<(n:Int):=by omega
      have riA:IntKind.i64.wrap ((jp:Int)+1)=(jp:Int)+1:=by rw [IntKind.wrap_i64];omega
      obtain⟨jNA,hjNA⟩:∃zq,zq=jp:=⟨_,rfl⟩
      have ejA:((jp:Int)).toNat=jNA:=by omega
      have pjA:(0:Int)≤(jp:Int):=by omega
      have bjA:(jp:Int)<(n:Int):=by omega
      have rjA:IntKind.i64.wrap ((jp:Int))=(jp:Int):=by rw [IntKind.wrap_i64];omega
      obtain⟨xA,hxA⟩:∃zx,zx=dj[jp+1]! :=⟨_,rfl⟩
      obtain⟨yA,hyA⟩:∃zx,zx=dj[jp]! :=⟨_,rfl⟩
      have laA:wr.cell? ⟨blk,off+iNA,none⟩=some (.int .u8 xA):=by rw [hiNA,hxA];exact sb_cell SJ.out R (by omega) (jp+1) (by omega)
      have lbA:wr.cell? ⟨blk,off+jNA,none⟩=some (.int .u8 yA):=by rw [hjNA,hyA];exact sb_cell SJ.out R (by omega) (jp) (by omega)
      have hvA:ltInt xA yA=true:=by rw [hxA,hyA];exact hlv
      have HVA:=hid hvA
      clear hxA hyA hiNA hjNA hvA
      go_wp2_with fail
      go_quiet ((go_at_call 204;exact Calls.quiet_of_same (less_q _ _ _ HVA.out _)))
      have S2:=hid (SW.drewN SJ.out nq)
      clear laA lbA HVA SJ
      generalize wr.drewN nq=w2 at S2 ⊢
      clear nq eiA piA biA riA ejA pjA bjA rjA
      obtain⟨iNB,hiNB⟩:∃zq,zq=jp+1:=⟨_,rfl⟩
      have eiB:((jp:Int)+1).toNat=iNB:=by omega
      have piB:(0:Int)≤(jp:Int)+1:=by omega
      have biB:(jp:Int)+1<(n:Int):=by omega
      have riB:IntKind.i64.wrap ((jp:Int)+1)=(jp:Int)+1:=by rw [IntKind.wrap_i64];omega
      obtain⟨jNB,hjNB⟩:∃zq,zq=jp:=⟨_,rfl⟩
      have ejB:((jp:Int)).toNat=jNB:=by omega
      have pjB:(0:Int)≤(jp:Int):=by omega
      have bjB:(jp:Int)<(n:Int):=by omega
      have rjB:IntKind.i64.wrap ((jp:Int))=(jp:Int):=by rw [IntKind.wrap_i64];omega
      obtain⟨xB,hxB⟩:∃zx,zx=dj[jp+1]! :=⟨_,rfl⟩
      obtain⟨yB,hyB⟩:∃zx,zx=dj[jp]! :=⟨_,rfl⟩
      have S3:Hid (SB w0 blk off (swp dj (jp+1) (jp)) ((w2.setCell ⟨blk,off+iNB,none⟩ (.int .u8 yB)).setCell ⟨blk,off+jNB,none⟩ (.int .u8 xB)).drew):=hid (by rw [hiNB,hjNB,hxB,hyB];exact sb_swap S2.out R (jp+1) (jp) (by omega) (by omega))
      have caB:w2.cell? ⟨blk,off+iNB,none⟩=some (.int .u8 xB):=by rw [hiNB,hxB];exact sb_cell S2.out R (by omega) (jp+1) (by omega)
      have cbB:w2.cell? ⟨blk,off+jNB,none⟩=some (.int .u8 yB):=by rw [hjNB,hyB];exact sb_cell S2.out R (by omega) (jp) (by omega)
      have faB:w2.frozen? ⟨blk,off+iNB,none⟩=false:=by rw [hiNB];exact SW.f1 S2.out R (by omega) (jp+1) (by omega)
      have fbB:w2.frozen? ⟨blk,off+jNB,none⟩=false:=by rw [hjNB];exact SW.f1 S2.out R (by omega) (jp) (by omega)
      obtain⟨uB,ccB⟩:∃u,(w2.setCell ⟨blk,off+iNB,none⟩ (.int .u8 yB)).cell? ⟨blk,off+jNB,none⟩=some u:=by rw [hiNB,hjNB];exact SW.c2 S2.out R (by omega) (jp+1) (jp) (by omega) (by omega) (.int .u8 yB)
      clear S2 hxB hyB hiNB hjNB
      go_wp2_with fail
      go_region
      clear caB cbB ccB faB fbB
      generalize ((w2.setCell ⟨blk,off+iNB,none⟩ (.int .u8 yB)).setCell ⟨blk,off+jNB,none⟩ (.int .u8 xB)).drew=w3 at S3 ⊢
      clear eiB piB biB riB ejB pjB bjB rjB
      go_wp2
      go_roundg jp
      case measure=>omega
      case rel=>exact⟨jp,swp dj (jp+1) jp,by go_num,by omega,by omega,Nat.le_refl _,by rw [size_swp];exact hsj,S3,hid (HGO.out.symm.trans HI.out)⟩
     | false =>
      have HST:=hid (OUT.out (.inr ⟨jp,rfl,hlv⟩))
      obtain⟨iNA,hiNA⟩:∃zq,zq=jp+1:=⟨_,rfl⟩
      have eiA:((jp:Int)+1).toNat=iNA:=by omega
      have piA:(0:Int)≤(jp:Int)+1:=by omega
      have biA:(jp:Int)+1<(n:Int):=by omega
      have riA:IntKind.i64.wrap ((jp:Int)+1)=(jp:Int)+1:=by rw [IntKind.wrap_i64];omega
      obtain⟨jNA,hjNA⟩:∃zq,zq=jp:=⟨_,rfl⟩
      have ejA:((jp:Int)).toNat=jNA:=by omega
      have pjA:(0:Int)≤(jp:Int):=by omega
      have bjA:(jp:Int)<(n:Int):=by omega
      have rjA:IntKind.i64.wrap ((jp:Int))=(jp:Int):=by rw [IntKind.wrap_i64];omega
      obtain⟨xA,hxA⟩:∃zx,zx=dj[jp+1]! :=⟨_,rfl⟩
      obtain⟨yA,hyA⟩:∃zx,zx=dj[jp]! :=⟨_,rfl⟩
      have laA:wr.cell? ⟨blk,off+iNA,none⟩=some (.int .u8 xA):=by rw [hiNA,hxA];exact sb_cell SJ.out R (by omega) (jp+1) (by omega)
      have lbA:wr.cell? ⟨blk,off+jNA,none⟩=some (.int .u8 yA):=by rw [hjNA,hyA];exact sb_cell SJ.out R (by omega) (jp) (by omega)
      have hvA:ltInt xA yA=false:=by rw [hxA,hyA];exact hlv
      have HVA:=hid hvA
      clear hxA hyA hiNA hjNA hvA
      go_wp2_with fail
      go_quiet ((go_at_call 204;exact Calls.quiet_of_same (less_q _ _ _ HVA.out _)))
      have S2:=hid (SW.drewN SJ.out nq)
      clear laA lbA HVA SJ
      generalize wr.drewN nq=w2 at S2 ⊢
      clear nq eiA piA biA riA ejA pjA bjA rjA
      go_wp2
      go_roundg (b-i)
      case measure=>omega
      case rel=>exact⟨i+1,dj,by go_num,by omega,by omega,by omega,hsj,S2,HST⟩
    ·have HST:=hid (OUT.out (.inl (by omega)))
     have hja1:decide ((a:Int)<(j:Int))=false:=by simp;omega
     have hja2:¬(a:Int)<(j:Int):=by omega
     have hja3:decide (a<j)=false:=by simp;omega
     go_wp2_with fail
     go_quiet (fail)
     have S2:=hid (SW.drewN SJ.out nq)
     generalize wr.drewN nq=w2 at S2 ⊢
     go_wp2
     go_roundg (b-i)
     case measure=>omega
     case rel=>exact⟨i+1,dj,by go_num,by omega,by omega,by omega,hsj,S2,HST⟩
  ·have hltz:¬(i:Int)<(b:Int):=by omega
   go_wp2
   go_end0
   refine⟨rfl,?_⟩
   have h:=(insOuter_end _ _ _ _ _ hlt).symm.trans HO.out
   unfold insertionSort
   rw [←h]
   exact S1.out
theorem rev_any (blk off cap a b n:Nat)(d0 d:Array Int)(w0 w:World)(R:RB w0 blk off d0)(hs0:d0.size=n)(hsd:d.size=n)(S:SB w0 blk off d w)(hab:a<b)(hb:b≤n)(hsz:n<4611686018427387904):
  Calls Tryz.prog 202 #[.slice (some ⟨blk,off,none⟩) n cap,.int .i64 a,.int .i64 b] w fun e w'=>e=.returned (.tuple #[])∧SB w0 blk off (reverseRange d a b) w':=by
 have S0:=hid S
 have hb1:((b-1:Nat):Int)=(b:Int)-1:=by omega
 have HB1:=hid hb1
 clear S hb1
 go_enter Tryz.func202,Tryz.ntmps202
 go_wp2
 go_loopg [6,7] (b-a) (fun g1 vi vj wr=>∃(i j:Nat) (dk:Array Int),vi=.int .i64 i∧vj=.int .i64 j∧a≤i∧j<b∧i≤j+1∧j-i≤g1∧dk.size=n∧Hid (SB w0 blk off dk wr)∧Hid (reverseLoop i j dk=reverseLoop a (b-1) d))
 case atStart=>exact⟨a,b-1,d,rfl,by rw [HB1.out],by omega,by omega,by omega,by omega,hsd,S0,hid rfl⟩
 case round=>
  clear S0
  obtain⟨i,j,dk,rfl,rfl,hai,hjb,hij1,hg1,hsk,S1,HO⟩:=hrel
  by_cases hlt:i<j
  ·obtain⟨jp,rfl⟩:∃q,j=q+1:=⟨j-1,by omega⟩
   have hltz:(i:Int)<(jp:Int)+1:=by omega
   have HRV:Hid (reverseLoop i (jp+1) dk=reverseLoop (i+1) jp (swp dk i (jp+1))):=hid (reverseLoop_step i (jp+1) dk hlt)
   go_wp2_with fail
   obtain⟨iNB,hiNB⟩:∃zq,zq=i:=⟨_,rfl⟩
   have eiB:((i:Int)).toNat=iNB:=by omega
   have piB:(0:Int)≤(i:Int):=by omega
   have biB:(i:Int)<(n:Int):=by omega
   have riB:IntKind.i64.wrap ((i:Int))=(i:Int):=by rw [IntKind.wrap_i64];omega
   obtain⟨jNB,hjNB⟩:∃zq,zq=jp+1:=⟨_,rfl⟩
   have ejB:((jp:Int)+1).toNat=jNB:=by omega
   have pjB:(0:Int)≤(jp:Int)+1:=by omega
   have bjB:(jp:Int)+1<(n:Int):=by omega
   have rjB:IntKind.i64.wrap ((jp:Int)+1)=(jp:Int)+1:=by rw [IntKind.wrap_i64];omega
   obtain⟨xB,hxB⟩:∃zx,zx=dk[i]! :=⟨_,rfl⟩
   obtain⟨yB,hyB⟩:∃zx,zx=dk[jp+1]! :=⟨_,rfl⟩
   have S3:Hid (SB w0 blk off (swp dk (i) (jp+1)) ((wr.setCell ⟨blk,off+iNB,none⟩ (.int .u8 yB)).setCell ⟨blk,off+jNB,none⟩ (.int .u8 xB)).drew):=hid (by rw [hiNB,hjNB,hxB,hyB];exact sb_swap S1.out R (i) (jp+1) (by omega) (by omega))
   have caB:wr.cell? ⟨blk,off+iNB,none⟩=some (.int .u8 xB):=by rw [hiNB,hxB];exact sb_cell S1.out R (by omega) (i) (by omega)
   have cbB:wr.cell? ⟨blk,off+jNB,none⟩=some (.int .u8 yB):=by rw [hjNB,hyB];exact sb_cell S1.out R (by omega) (jp+1) (by omega)
   have faB:wr.frozen? ⟨blk,off+iNB,none⟩=false:=by rw [hiNB];exact SW.f1 S1.out R (by omega) (i) (by omega)
   have fbB:wr.frozen? ⟨blk,off+jNB,none⟩=false:=by rw [hjNB];exact SW.f1 S1.out R (by omega) (jp+1) (by omega)
   obtain⟨uB,ccB⟩:∃u,(wr.setCell ⟨blk,off+iNB,none⟩ (.int .u8 yB)).cell? ⟨blk,off+jNB,none⟩=some u:=by rw [hiNB,hjNB];exact SW.c2 S1.out R (by omega) (i) (jp+1) (by omega) (by omega) (.int .u8 yB)
   clear S1 hxB hyB hiNB hjNB
   go_wp2_with fail
   go_region
   clear caB cbB ccB faB fbB
   generalize ((wr.setCell ⟨blk,off+iNB,none⟩ (.int .u8 yB)).setCell ⟨blk,off+jNB,none⟩ (.int .u8 xB)).drew=w3 at S3 ⊢
   clear eiB piB biB riB ejB pjB bjB rjB
   go_wp2
   go_roundg (jp-i-1)
   case measure=>omega
   case rel=>exact⟨i+1,jp,swp dk i (jp+1),by go_num,by go_num,by omega,by omega,by omega,by omega,by rw [size_swp];exact hsk,S3,hid (HRV.out.symm.trans HO.out)⟩
  ·have hltz:¬(i:Int)<(j:Int):=by omega
   go_wp2
   go_end0
   refine⟨rfl,?_⟩
   have h:=(reverseLoop_end _ _ _ hlt).symm.trans HO.out
   unfold reverseRange
   rw [←h]
   exact S1.out
end
end Go.Proofs.YtecladbckadijaaGreatDoor
