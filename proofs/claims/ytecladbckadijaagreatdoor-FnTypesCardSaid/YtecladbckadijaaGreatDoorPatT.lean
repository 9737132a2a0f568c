/- MERGED for a claim. -/
import Derived.Test.YtecladbckadijaaGreatDoorPatS
import Derived.StillTailTactics
set_option linter.unusedVariables false
set_option linter.unusedSimpArgs false
set_option maxRecDepth 100000
set_option maxHeartbeats 16000000
namespace Go.Proofs.YtecladbckadijaaGreatDoor
open Go.Lib (hid)
section
open Go.RowKit

def TreeOut (d:Nat)(o:Option (Pat×List UInt8))(n:Nat)(w:World)(e:Ending)(w':World):Prop:=match o with
 | none=>e=.returned (.tuple #[.agg #[.int .i64 0,.string ⟨#[]⟩,.slice none 0 0],.int .i64 0])∧Below w.heap.size w w'
 | some (p,r)=>∃(A:Option Addr) (c:Nat) (S:Nat→Prop),e=.returned (.tuple #[.agg #[.int .i64 p.x.op,.string p.x.text,.slice A p.kids.length c],.int .i64 ((n-r.length:Nat):Int)])∧OwN patK d w.heap.size w' ⟨p.x.op,p.x.text,.slice A p.kids.length c⟩ p S∧Below w.heap.size w w'
def AtomC (n:Nat):Prop:=∀(s:ByteArray) (w:World),s.size≤n→s.size≤30→Calls Tryz.prog 175 #[.string s] w (TreeOut (4*n) (atomF n s.data.toList) s.size w)
def RepC (n:Nat):Prop:=∀(s:ByteArray) (w:World),s.size≤n→s.size≤30→Calls Tryz.prog 155 #[.string s] w (TreeOut (4*n+2) (repL (atomF n) s.data.toList) s.size w)
def SeqC (n:Nat):Prop:=∀(s:ByteArray) (w:World),s.size≤n→s.size≤30→Calls Tryz.prog 131 #[.string s] w (TreeOut (4*n+3) (some (seqP (atomF n) s.data.toList)) s.size w)
def AltC (n:Nat):Prop:=∀(s:ByteArray) (w:World),s.size≤n→s.size≤30→Calls Tryz.prog 115 #[.string s] w (TreeOut (4*n+4) (some (altP (atomF n) s.data.toList)) s.size w)
def ClassC:Prop:=∀(s:ByteArray) (w:World),0<s.size→s.size≤30→Calls Tryz.prog 187 #[.string s] w (TreeOut 0 (classL (s.data.toList.drop 1)) s.size w)
def innerL (n:Nat)(l:List UInt8):Option (Pat×List UInt8):=match (altP (atomF n) l).2 with
 | []=>none
 | d::r'=>if d=41 then some ((altP (atomF n) l).1,r')else none
def InnerC (n:Nat):Prop:=∀(s:ByteArray) (w:World),0<s.size→s.size≤n+1→s.size≤30→Calls Tryz.prog 186 #[.string s] w (TreeOut (4*n+4) (innerL n (s.data.toList.drop 1)) s.size w)
theorem drop_head {s:ByteArray}{k:Nat}{d:UInt8}{r:List UInt8}(h:d::r=s.data.toList.drop k):∃hk:k<s.size,s[k]=d∧r=s.data.toList.drop (k+1):=by
 have hk:k<s.size:=by
  rcases Nat.lt_or_ge k s.size with h1|h1
  ·exact h1
  ·rw [List.drop_eq_nil_of_le (by simpa using h1)]at h;cases h
 rw [data_drop s k hk]at h
 injection h with h1 h2
 exact⟨hk,h1.symm,h2⟩
theorem ext_drop (s:ByteArray)(k:Nat):(s.extract k s.size).data.toList=s.data.toList.drop k:=by
 rw [Lib.extract_data,List.take_of_length_le (by simp)]
theorem ext_size (s:ByteArray)(k:Nat):(s.extract k s.size).size=s.size-k:=by simp
theorem inner_of {n:Nat}(hA:AltC n):InnerC n:=by
 intro s w h0 hn h30
 have hC:=fun w=>hA (s.extract 1 s.size) w (by rw [ext_size];omega) (by rw [ext_size];omega)
 rw [ext_drop,ext_size]at hC
 have hsuf:=altP_suf (atomF_sh n) (s.data.toList.drop 1)
 unfold innerL
 obtain⟨⟨p,r⟩,hpr⟩:∃x,x=altP (atomF n) (s.data.toList.drop 1):=⟨_,rfl⟩
 rw [←hpr]at hC hsuf ⊢
 have hlen:(s.data.toList.drop 1).length=s.size-1:=by simp
 have hr:=hsuf.drop
 have hrl:=hsuf.len
 simp only at hr hrl ⊢
 rw [hlen]at hr hrl
 rw [List.drop_drop]at hr
 obtain⟨k,hk⟩:∃k,k=s.size-1-r.length:=⟨_,rfl⟩
 rw [←hk]at hr
 have HC:Hid (∀w,Calls Tryz.prog 115 #[.string (s.extract 1 s.size)] w fun e w'=>∃(A:Option Addr) (c:Nat) (S:Nat→Prop),e=.returned (.tuple #[.agg #[.int .i64 p.x.op,.string p.x.text,.slice A p.kids.length c],.int .i64 (k:Int)])∧OwN patK (4*n+4) w.heap.size w' ⟨p.x.op,p.x.text,.slice A p.kids.length c⟩ p S∧Below w.heap.size w w'):=hid (by
  intro w;rw [hk];exact hC w)
 have hs0:s.size≤9223372036854775807:=by omega
 have hs1:1≤s.size:=h0
 have hkb:(k:Int)≤30:=by omega
 clear hC hsuf hlen hpr hA
 cases r with
 | nil =>
  have hk1:1+k=s.size:=by simp at hk;omega
  have hq:(1+(k:Int)==(s.size:Int))=true:=by simp;omega
  have HK:=hid hk1
  clear hr hrl hk hk1 hn h30 h0
  go_enter Tryz.func186,Tryz.ntmps186
  go_wp2_with (go_at_call 115;refine(HC.out _).mono ?_;rintro e w1 ⟨A,c,S,rfl,ho,hb⟩;obtain⟨⟨b0,b1,b2⟩,⟨f0,f1,f2⟩,hz⟩:=box3p hb)
  refine bodyPost_ret (v:=.tuple #[.agg #[.int .i64 0,.string ⟨#[]⟩,.slice none 0 0],.int .i64 0]) (by simp [results,Tryz.results186,go_sem,b0,b1,b2,hz]) rfl ?_
  exact⟨rfl,below_al (below_set (below_set (below_set (below_step (below_al (Below.refl _ _) _) hb) (Nat.le_refl _)) (Nat.le_refl _)) (Nat.le_refl _)) _⟩
 | cons d r' =>
  obtain⟨hlt,hd,hr'⟩:=drop_head hr
  have hq:(1+(k:Int)==(s.size:Int))=false:=by simp only [beq_eq_false_iff_ne,ne_eq];omega
  have hlt1:(1:Int)+(k:Int)<(s.size:Int):=by omega
  have hln:r'.length=s.size-(1+k+1):=by rw [hr'];simp
  have HLN:Hid ((s.size-r'.length:Nat)=1+k+1):=hid (by omega)
  have HD:=hid hd
  by_cases h41:d=41
  ·have hq2:((s[1+k].toNat:Int) != 41)=false:=by rw [hd,h41];rfl
   have H41:=hid h41
   simp only [if_pos h41]
   clear hr hrl hk hn h30 h0 hr' hln hd h41
   go_enter Tryz.func186,Tryz.ntmps186
   go_wp2_with (go_at_call 115;refine(HC.out _).mono ?_;rintro e w1 ⟨A,c,S,rfl,ho,hb⟩;obtain⟨⟨b0,b1,b2⟩,⟨f0,f1,f2⟩,hz⟩:=box3p hb)
   refine bodyPost_ret (v:=.tuple #[.agg #[.int .i64 p.x.op,.string p.x.text,.slice A p.kids.length c],.int .i64 (1+(k:Int)+1)]) (by simp [results,Tryz.results186,go_sem,b0,b1,b2,hz]) rfl ?_
   refine⟨A,c,S,by rw [HLN.out];rfl,?_,below_al (below_set (below_set (below_set (below_step (below_al (Below.refl _ _) _) hb) (Nat.le_refl _)) (Nat.le_refl _)) (Nat.le_refl _)) _⟩
   exact((((OwN.set ho (by simp)).set (by simp)).set (by simp)).al _).mono (by simp)
  ·have hq2:((s[1+k].toNat:Int) != 41)=true:=by rw [hd,bne,show((d.toNat:Int)==41)=false from byte_ne (d:=41) h41];rfl
   have H41:=hid h41
   simp only [if_neg h41]
   clear hr hrl hk hn h30 h0 hr' hln hd h41
   go_enter Tryz.func186,Tryz.ntmps186
   go_wp2_with (go_at_call 115;refine(HC.out _).mono ?_;rintro e w1 ⟨A,c,S,rfl,ho,hb⟩;obtain⟨⟨b0,b1,b2⟩,⟨f0,f1,f2⟩,hz⟩:=box3p hb)
   refine bodyPost_ret (v:=.tuple #[.agg #[.int .i64 0,.string ⟨#[]⟩,.slice none 0 0],.int .i64 0]) (by simp [results,Tryz.results186,go_sem,b0,b1,b2,hz]) rfl ?_
   exact⟨rfl,below_al (below_set (below_set (below_set (below_step (below_al (Below.refl _ _) _) hb) (Nat.le_refl _)) (Nat.le_refl _)) (Nat.le_refl _)) _⟩
section
variable {d n k:Nat} {p:Pat} {r:List UInt8} {w w1:World} {o:Obj} {A:Option Addr} {c:Nat} {S:Nat→Prop} {x0 x1 x2:Value}
theorem set3_below (hb:Below (w.alloc o).heap.size (w.alloc o) w1):Below w.heap.size w (((w1.setCell ⟨w.heap.size,0,none⟩ x0).setCell ⟨w.heap.size,1,none⟩ x1).setCell ⟨w.heap.size,2,none⟩ x2):=
 below_set (below_set (below_set (below_step (below_al (Below.refl _ _) _) hb) (Nat.le_refl _)) (Nat.le_refl _)) (Nat.le_refl _)
theorem tree_some (ho:OwN patK d (w.alloc o).heap.size w1 ⟨p.x.op,p.x.text,.slice A p.kids.length c⟩ p S)(hb:Below (w.alloc o).heap.size (w.alloc o) w1){e:Nat}(he:d≤e)(hk:n-r.length=k):
  TreeOut e (some (p,r)) n w (.returned (.tuple #[.agg #[.int .i64 p.x.op,.string p.x.text,.slice A p.kids.length c],.int .i64 (k:Int)])) (((w1.setCell ⟨w.heap.size,0,none⟩ x0).setCell ⟨w.heap.size,1,none⟩ x1).setCell ⟨w.heap.size,2,none⟩ x2):=
 ⟨A,c,S,by rw [hk],((((OwN.set ho (by simp)).set (by simp)).set (by simp)).mono (by simp)).to he,set3_below hb⟩
theorem tree_none (hb:Below (w.alloc o).heap.size (w.alloc o) w1):
  TreeOut d none n w (.returned (.tuple #[.agg #[.int .i64 0,.string ⟨#[]⟩,.slice none 0 0],.int .i64 0])) (((w1.setCell ⟨w.heap.size,0,none⟩ x0).setCell ⟨w.heap.size,1,none⟩ x1).setCell ⟨w.heap.size,2,none⟩ x2):=⟨rfl,set3_below hb⟩
end
theorem owN_leaf (d B:Nat)(w:World)(op:Int)(text:ByteArray):OwN patK d B w ⟨op,text,.slice none 0 0⟩ (.mk ⟨op,text⟩ []) (fun _=>False):=owN_of (owL_nil patK d B w)
theorem atom_of {n:Nat}(hI:InnerC n)(hK:ClassC):AtomC (n+1):=by
 intro s w hn h30
 have hs9:s.size≤9223372036854775807:=by omega
 by_cases h0:s.size=0
 ·have he:s.data.toList=[]:=by rw [str_empty h0]
  have hem:s.toList.isEmpty=true:=by rw [ByteArray.toList_eq,he];rfl
  have hem2:s.toList=[]:=by rw [ByteArray.toList_eq,he]
  rw [he,atomF_nil]
  clear he h0 hn h30 hs9 hI hK
  go_enter Tryz.func175,Tryz.ntmps175
  go_wp2
  refine bodyPost_ret (v:=.tuple #[.agg #[.int .i64 0,.string ⟨#[]⟩,.slice none 0 0],.int .i64 0]) (by simp [results,Tryz.results175,go_sem]) rfl ?_
  exact⟨rfl,below_al (Below.refl _ _) _⟩
 ·have h0':0<s.size:=by omega
  have hne:=not_empty h0'
  have hne2:¬s.toList=[]:=by rw [ByteArray.toList_eq];exact data_ne h0'
  have hi0:(0:Int)<(s.size:Int):=by omega
  have hcons:=data_cons s h0'
  obtain⟨c,hc⟩:∃c,c=s[0]:=⟨_,rfl⟩
  have hlen:(s.data.toList.drop 1).length=s.size-1:=by simp
  rw [←hc]at hcons
  have HX:Hid (atomF (n+1) s.data.toList=atomL (altP (atomF n)) (c::s.data.toList.drop 1)):=hid (by rw [←hcons];rfl)
  rw [HX.out]
  by_cases h40:c=40
  ·have hq:((s[0].toNat:Int)==40)=true:=by rw [←hc,h40];rfl
   have HC:=hid (fun w=>hI s w h0' hn h30)
   have e:atomL (altP (atomF n)) (c::s.data.toList.drop 1)=innerL n (s.data.toList.drop 1):=by rw [h40];rfl
   rw [e]
   generalize innerL n (s.data.toList.drop 1)=o at HC
   clear hcons hc h40 e h0 hn h30 hI hK hlen HX
   match o,HC with
   | none, HC =>
    go_enter Tryz.func175,Tryz.ntmps175
    go_wp2_with (go_at_call 186;refine(HC.out _).mono ?_;rintro e w1 ⟨rfl,hb⟩;obtain⟨⟨b0,b1,b2⟩,⟨f0,f1,f2⟩,hz⟩:=box3p hb)
    refine bodyPost_ret (v:=.tuple #[.agg #[.int .i64 0,.string ⟨#[]⟩,.slice none 0 0],.int .i64 0]) (by simp [results,Tryz.results175,go_sem,b0,b1,b2,hz]) rfl ?_
    exact tree_none hb
   | some (p, r), HC =>
    obtain⟨k,hk⟩:∃k,s.size-r.length=k:=⟨_,rfl⟩
    have HK:=hid hk
    have HC2:Hid (∀w,Calls Tryz.prog 186 #[.string s] w fun e w'=>∃(A:Option Addr) (c:Nat) (S:Nat→Prop),e=.returned (.tuple #[.agg #[.int .i64 p.x.op,.string p.x.text,.slice A p.kids.length c],.int .i64 (k:Int)])∧OwN patK (4*n+4) w.heap.size w' ⟨p.x.op,p.x.text,.slice A p.kids.length c⟩ p S∧Below w.heap.size w w'):=hid (by rw [←hk];exact HC.out)
    clear hk HC
    go_enter Tryz.func175,Tryz.ntmps175
    go_wp2_with (go_at_call 186;refine(HC2.out _).mono ?_;rintro e w1 ⟨A,cc,S,rfl,ho,hb⟩;obtain⟨⟨b0,b1,b2⟩,⟨f0,f1,f2⟩,hz⟩:=box3p hb)
    refine bodyPost_ret (v:=.tuple #[.agg #[.int .i64 p.x.op,.string p.x.text,.slice A p.kids.length cc],.int .i64 (k:Int)]) (by simp [results,Tryz.results175,go_sem,b0,b1,b2,hz]) rfl ?_
    exact tree_some ho hb (by omega) HK.out
  ·have hq:((s[0].toNat:Int)==40)=false:=by rw [←hc];exact byte_ne (d:=40) h40
   by_cases h91:c=91
   ·have hq1:((s[0].toNat:Int)==91)=true:=by rw [←hc,h91];rfl
    have HC:=hid (fun w=>hK s w h0' h30)
    have e:atomL (altP (atomF n)) (c::s.data.toList.drop 1)=classL (s.data.toList.drop 1):=by rw [h91];rfl
    rw [e]
    generalize classL (s.data.toList.drop 1)=o at HC
    clear hcons hc h40 h91 e h0 hn h30 hI hK hlen HX
    match o,HC with
    | none, HC =>
     go_enter Tryz.func175,Tryz.ntmps175
     go_wp2_with (go_at_call 187;refine(HC.out _).mono ?_;rintro e w1 ⟨rfl,hb⟩;obtain⟨⟨b0,b1,b2⟩,⟨f0,f1,f2⟩,hz⟩:=box3p hb)
     refine bodyPost_ret (v:=.tuple #[.agg #[.int .i64 0,.string ⟨#[]⟩,.slice none 0 0],.int .i64 0]) (by simp [results,Tryz.results175,go_sem,b0,b1,b2,hz]) rfl ?_
     exact tree_none hb
    | some (p, r), HC =>
     obtain⟨k,hk⟩:∃k,s.size-r.length=k:=⟨_,rfl⟩
     have HK:=hid hk
     have HC2:Hid (∀w,Calls Tryz.prog 187 #[.string s] w fun e w'=>∃(A:Option Addr) (c:Nat) (S:Nat→Prop),e=.returned (.tuple #[.agg #[.int .i64 p.x.op,.string p.x.text,.slice A p.kids.length c],.int .i64 (k:Int)])∧OwN patK 0 w.heap.size w' ⟨p.x.op,p.x.text,.slice A p.kids.length c⟩ p S∧Below w.heap.size w w'):=hid (by rw [←hk];exact HC.out)
     clear hk HC
     go_enter Tryz.func175,Tryz.ntmps175
     go_wp2_with (go_at_call 187;refine(HC2.out _).mono ?_;rintro e w1 ⟨A,cc,S,rfl,ho,hb⟩;obtain⟨⟨b0,b1,b2⟩,⟨f0,f1,f2⟩,hz⟩:=box3p hb)
     refine bodyPost_ret (v:=.tuple #[.agg #[.int .i64 p.x.op,.string p.x.text,.slice A p.kids.length cc],.int .i64 (k:Int)]) (by simp [results,Tryz.results175,go_sem,b0,b1,b2,hz]) rfl ?_
     exact tree_some ho hb (by omega) HK.out
   ·have hq1:((s[0].toNat:Int)==91)=false:=by rw [←hc];exact byte_ne (d:=91) h91
    by_cases h46:c=46
    ·have hq2:((s[0].toNat:Int)==46)=true:=by rw [←hc,h46];rfl
     have e:atomL (altP (atomF n)) (c::s.data.toList.drop 1)=some (charsP anyL,s.data.toList.drop 1):=by rw [h46];rfl
     rw [e]
     have HL:Hid ((s.size-(s.data.toList.drop 1).length:Nat)=1):=hid (by rw [hlen];omega)
     clear hcons hc h40 h91 h46 e h0 hn h30 hI hK hlen HX
     go_enter Tryz.func175,Tryz.ntmps175
     go_wp2_with (go_at_call 188;refine(iBetw_any 32 126 (by decide) _).mono ?_;rintro e w1 ⟨v,rfl,hbuf⟩;rw [any_betw]at hbuf;have hcv:=buf_str hbuf;have hb:=hbuf.below;obtain⟨⟨b0,b1,b2⟩,⟨f0,f1,f2⟩,hz⟩:=box3p hb)
     refine bodyPost_ret (v:=.tuple #[.agg #[.int .i64 1,.string ⟨anyL.toArray⟩,.slice none 0 0],.int .i64 1]) (by simp [results,Tryz.results175,go_sem,b0,b1,b2,hz]) rfl ?_
     exact tree_some (p:=charsP anyL) (d:=0) (owN_leaf _ _ _ _ _) hb (by omega) HL.out
    ·have hq2:((s[0].toNat:Int)==46)=false:=by rw [←hc];exact byte_ne (d:=46) h46
     cases hnb:nbB c
     ·have e:atomL (altP (atomF n)) (c::s.data.toList.drop 1)=none:=by simp [atomL,h40,h91,h46,hnb]
      rw [e]
      have HNB:Hid (nbB s[0]=false):=hid (by rw [←hc];exact hnb)
      clear hcons hc h40 h91 h46 e h0 hn h30 hI hK hlen HX hnb
      go_enter Tryz.func175,Tryz.ntmps175
      go_wp2_with (go_at_call 122;((with_reducible refine(iNb_any _ _).mono ?_);rw [HNB.out];rintro e w' ⟨rfl,rfl⟩))
      refine bodyPost_ret (v:=.tuple #[.agg #[.int .i64 0,.string ⟨#[]⟩,.slice none 0 0],.int .i64 0]) (by simp [results,Tryz.results175,go_sem]) rfl ?_
      exact⟨rfl,below_al (Below.refl _ _) _⟩
     ·have e:atomL (altP (atomF n)) (c::s.data.toList.drop 1)=some (charsP [c],s.data.toList.drop 1):=by simp [atomL,h40,h91,h46,hnb]
      rw [e]
      have HNB:Hid (nbB s[0]=true):=hid (by rw [←hc];exact hnb)
      have HL:Hid ((s.size-(s.data.toList.drop 1).length:Nat)=1):=hid (by rw [hlen];omega)
      have HE:Hid (s.extract 0 1=⟨[c].toArray⟩):=hid (by
       apply ByteArray.ext;apply Array.toList_inj.1
       rw [Lib.extract_data,hcons];rfl)
      have hi1:(1:Int)≤(s.size:Int):=by omega
      clear hcons hc h40 h91 h46 e h0 hn h30 hI hK hlen HX hnb
      go_enter Tryz.func175,Tryz.ntmps175
      go_wp2_with (go_at_call 122;((with_reducible refine(iNb_any _ _).mono ?_);rw [HNB.out];rintro e w' ⟨rfl,rfl⟩))
      refine bodyPost_ret (v:=.tuple #[.agg #[.int .i64 1,.string (s.extract 0 1),.slice none 0 0],.int .i64 1]) (by simp [results,Tryz.results175,go_sem]) rfl ?_
      rw [HE.out]
      refine⟨none,0,fun _=>False,by rw [HL.out];rfl,(owN_leaf _ _ _ _ _),below_al (Below.refl _ _) _⟩
theorem pat_cells (op:Int)(text:ByteArray)(A:Option Addr)(n c:Nat):∀v∈patK.enc ⟨op,text,.slice A n c⟩,v.oneCell'=true:=by
 intro v hv
 simp [patK,PatR.enc]at hv
 rcases hv with rfl|rfl|rfl<;>rfl
theorem star_own {d:Nat}{p:Pat}{w w1:World}{o box:Obj}{A:Option Addr}{c:Nat}{S:Nat→Prop}{x0 x1 x2:Value}(op:Int)(ho:OwN patK d (w.alloc o).heap.size w1 ⟨p.x.op,p.x.text,.slice A p.kids.length c⟩ p S)(hz:w.heap.size<w1.heap.size):
  OwN patK (d+1) w.heap.size (((((w1.setCell ⟨w.heap.size,0,none⟩ x0).setCell ⟨w.heap.size,1,none⟩ x1).setCell ⟨w.heap.size,2,none⟩ x2).alloc box).alloc (.cells #[.int .i64 p.x.op,.string p.x.text,.slice A p.kids.length c] 92)) ⟨op,⟨#[]⟩,.slice (some ⟨w1.heap.size+1,0,none⟩) 1 1⟩ (opP op [p]) (fun b=>b=w1.heap.size+1∨S b):=by
 have h1:=(((OwN.set (j:=0) (u:=x0) ho (b:=w.heap.size) (by simp)).set (j:=1) (u:=x1) (b:=w.heap.size) (by simp)).set (j:=2) (u:=x2) (b:=w.heap.size) (by simp)).al box
 have e:((((w1.setCell ⟨w.heap.size,0,none⟩ x0).setCell ⟨w.heap.size,1,none⟩ x1).setCell ⟨w.heap.size,2,none⟩ x2).alloc box).heap.size=w1.heap.size+1:=by simp [World.setCell]
 have h2:=owL_one (B:=w.heap.size) (h1.mono (by simp)) (by rw [e];omega) (by decide) (pat_cells _ _ _ _ _)
 rw [e]at h2
 exact owN_of h2
theorem star_at {d B m:Nat}{p:Pat}{W:World}{box:Obj}{A:Option Addr}{c:Nat}{S:Nat→Prop}(op:Int)(h:OwN patK d B W ⟨p.x.op,p.x.text,.slice A p.kids.length c⟩ p S)(hB:B≤W.heap.size)(hm:W.heap.size=m):
  OwN patK (d+1) B ((W.alloc box).alloc (.cells #[.int .i64 p.x.op,.string p.x.text,.slice A p.kids.length c] 92)) ⟨op,⟨#[]⟩,.slice (some ⟨m+1,0,none⟩) 1 1⟩ (opP op [p]) (fun b=>b=m+1∨S b):=by
 have e:(W.alloc box).heap.size=m+1:=by simp [hm]
 have h2:=owL_one (B:=B) (h.al box) (by rw [e];omega) (by decide) (pat_cells _ _ _ _ _)
 rw [e]at h2
 exact owN_of h2
theorem plus_own {d:Nat}{p:Pat}{w w1 w2:World}{o box box2 box3:Obj}{A A2:Option Addr}{c c2:Nat}{S S2:Nat→Prop}{x0 x1 x2:Value}
  (ho:OwN patK d (w.alloc o).heap.size w1 ⟨p.x.op,p.x.text,.slice A p.kids.length c⟩ p S) (hz:w.heap.size<w1.heap.size) (hb:Below (w1.alloc box).heap.size (w1.alloc box) w2) (ho2:OwN patK d (w1.alloc box).heap.size w2 ⟨p.x.op,p.x.text,.slice A2 p.kids.length c2⟩ p S2):
  OwN patK (d+2) w.heap.size (((((((w2.setCell ⟨w.heap.size,0,none⟩ x0).setCell ⟨w.heap.size,1,none⟩ x1).setCell ⟨w.heap.size,2,none⟩ x2).alloc box2).alloc (.cells #[.int .i64 p.x.op,.string p.x.text,.slice A2 p.kids.length c2] 92)).alloc box3).alloc (.cells #[.int .i64 p.x.op,.string p.x.text,.slice A p.kids.length c,.int .i64 4,.string ⟨#[]⟩,.slice (some ⟨w2.heap.size+1,0,none⟩) 1 1] 92))
   ⟨2,⟨#[]⟩,.slice (some ⟨w2.heap.size+1+1+1,0,none⟩) 2 2⟩ (opP 2 [p,opP 4 [p]]) (fun b=>b=w2.heap.size+1+1+1∨S b∨(b=w2.heap.size+1∨S2 b)):=by
 have hz2:w1.heap.size<w2.heap.size:=by have:=hb.size;simp at this;omega
 have hb1:Below w1.heap.size w1 w2:=below_step (below_al (Below.refl _ _) _) hb
 have e:(((w2.setCell ⟨w.heap.size,0,none⟩ x0).setCell ⟨w.heap.size,1,none⟩ x1).setCell ⟨w.heap.size,2,none⟩ x2).heap.size=w2.heap.size:=by simp [World.setCell]
 have h1:=((OwN.set (j:=0) (u:=x0) (ho.below hb1) (b:=w.heap.size) (by simp)).set (j:=1) (u:=x1) (b:=w.heap.size) (by simp)).set (j:=2) (u:=x2) (b:=w.heap.size) (by simp)
 have h2:=((OwN.set (j:=0) (u:=x0) ho2 (b:=w.heap.size) (by simp;omega)).set (j:=1) (u:=x1) (b:=w.heap.size) (by simp;omega)).set (j:=2) (u:=x2) (b:=w.heap.size) (by simp;omega)
 have h3:=star_at (box:=box2) 4 h2 (by rw [e];simp;omega) e
 generalize ((w2.setCell ⟨w.heap.size,0,none⟩ x0).setCell ⟨w.heap.size,1,none⟩ x1).setCell ⟨w.heap.size,2,none⟩ x2=W at h1 h3 e ⊢
 have h1':=(((h1.al box2).al (.cells #[.int .i64 p.x.op,.string p.x.text,.slice A2 p.kids.length c2] 92)).al box3).to (Nat.le_succ d)
 have h3':=h3.al box3
 have e3:(((W.alloc box2).alloc (.cells #[.int .i64 p.x.op,.string p.x.text,.slice A2 p.kids.length c2] 92)).alloc box3).heap.size=w2.heap.size+1+1+1:=by simp [e]
 have h4:=owL_two (B:=w.heap.size) (h1'.mono (by simp)) (h3'.mono (by simp;omega)) (fun b hb hs=>by
  have hlt:=(ho.lt b hb).2
  rcases hs with hs|hs
  ·omega
  ·have:=(ho2.lt b hs).1;simp at this;omega) (by rw [e3];omega)
 rw [e3]at h4
 exact owN_of h4
theorem rep_of {n:Nat}(hA:AtomC n):RepC n:=by
 intro s w hn h30
 have hs9:s.size≤9223372036854775807:=by omega
 have HC:=hid (fun w=>hA s w hn h30)
 unfold repL
 have hsh:=atomF_sh n s.data.toList
 have hlen:s.data.toList.length=s.size:=by simp
 cases ho:atomF n s.data.toList with
 | none =>
  rw [ho]at HC
  clear hn h30 hA hsh hlen ho
  go_enter Tryz.func155,Tryz.ntmps155
  go_wp2_with (go_at_call 175;refine(HC.out _).mono ?_;rintro e w1 ⟨rfl,hb⟩;obtain⟨⟨b0,b1,b2⟩,⟨f0,f1,f2⟩,hz⟩:=box3p hb)
  refine bodyPost_ret (v:=.tuple #[.agg #[.int .i64 0,.string ⟨#[]⟩,.slice none 0 0],.int .i64 0]) (by simp [results,Tryz.results155,go_sem,b0,b1,b2,hz]) rfl ?_
  exact⟨rfl,below_al (set3_below hb) _⟩
 | some x =>
  obtain⟨p,r⟩:=x
  rw [ho]at HC
  obtain⟨hsuf,hlt⟩:=hsh p r ho
  have hr:=hsuf.drop
  rw [hlen]at hr hlt
  obtain⟨k,hk⟩:∃k,s.size-r.length=k:=⟨_,rfl⟩
  rw [hk]at hr
  have hk0:0<k:=by omega
  have hkb:(k:Int)≤30:=by omega
  have HC2:Hid (∀w,Calls Tryz.prog 175 #[.string s] w fun e w'=>∃(A:Option Addr) (c:Nat) (S:Nat→Prop),e=.returned (.tuple #[.agg #[.int .i64 p.x.op,.string p.x.text,.slice A p.kids.length c],.int .i64 (k:Int)])∧OwN patK (4*n) w.heap.size w' ⟨p.x.op,p.x.text,.slice A p.kids.length c⟩ p S∧Below w.heap.size w w'):=hid (by rw [←hk];exact HC.out)
  have hq0:((k:Int)==0)=false:=by simp only [beq_eq_false_iff_ne,ne_eq];omega
  clear HC hA hsh hsuf ho
  cases r with
  | nil =>
   have hks:k=s.size:=by simp at hk;omega
   have hq1:((k:Int)==(s.size:Int))=true:=by simp;omega
   have HK:=hid hk
   clear hn h30 hlen hlt hr hk hk0 hks
   go_enter Tryz.func155,Tryz.ntmps155
   go_wp2_with (go_at_call 175;refine(HC2.out _).mono ?_;rintro e w1 ⟨A,c,S,rfl,ho,hb⟩;obtain⟨⟨b0,b1,b2⟩,⟨f0,f1,f2⟩,hz⟩:=box3p hb)
   refine bodyPost_ret (v:=.tuple #[.agg #[.int .i64 p.x.op,.string p.x.text,.slice A p.kids.length c],.int .i64 (k:Int)]) (by simp [results,Tryz.results155,go_sem,b0,b1,b2,hz]) rfl ?_
   exact⟨A,c,S,by rw [HK.out],(((((OwN.set ho (by simp)).set (by simp)).set (by simp)).al _).mono (by simp)).to (by omega),below_al (set3_below hb) _⟩
  | cons d r' =>
   obtain⟨hlt2,hd,hr'⟩:=drop_head hr
   have hq1:((k:Int)==(s.size:Int))=false:=by simp only [beq_eq_false_iff_ne,ne_eq];omega
   have hlk:(k:Int)<(s.size:Int):=by omega
   have hln:r'.length=s.size-(k+1):=by rw [hr'];simp
   have HK1:Hid ((s.size-(d::r').length:Nat)=k):=hid hk
   have HK2:Hid ((s.size-r'.length:Nat)=k+1):=hid (by omega)
   have hdx:(s[k].toNat:Int)≤255:=by have:=s[k].toNat_lt;omega
   clear hn h30 hlen hlt hr hr' hk hk0 hln
   by_cases h42:d=42
   ·have hq2:((s[k].toNat:Int)==42)=true:=by rw [hd,h42];rfl
    have e:Option.map (fun x=>repT x.1 x.2) (some (p,d::r'))=some (opP 4 [p],r'):=by rw [h42];rfl
    rw [e]
    clear e hd h42
    go_enter Tryz.func155,Tryz.ntmps155
    go_wp2_with (go_at_call 175;refine(HC2.out _).mono ?_;rintro e w1 ⟨A,c,S,rfl,ho,hb⟩;obtain⟨⟨b0,b1,b2⟩,⟨f0,f1,f2⟩,hz⟩:=box3p hb)
    refine bodyPost_ret (v:=.tuple #[.agg #[.int .i64 4,.string ⟨#[]⟩,.slice (some ⟨w1.heap.size+1,0,none⟩) 1 1],.int .i64 ((k:Int)+1)]) (by simp [results,Tryz.results155,go_sem,b0,b1,b2,hz]) rfl ?_
    exact⟨some ⟨w1.heap.size+1,0,none⟩,1,_,by rw [HK2.out];rfl,(star_own 4 ho hz).to (by omega),below_al (below_al (set3_below hb) _) _⟩
   ·have hq2:((s[k].toNat:Int)==42)=false:=by rw [hd];exact byte_ne (d:=42) h42
    by_cases h63:d=63
    ·have hq3:((s[k].toNat:Int)==63)=true:=by rw [hd,h63];rfl
     have e:Option.map (fun x=>repT x.1 x.2) (some (p,d::r'))=some (opP 5 [p],r'):=by rw [h63];rfl
     rw [e]
     clear e hd h42 h63
     go_enter Tryz.func155,Tryz.ntmps155
     go_wp2_with (go_at_call 175;refine(HC2.out _).mono ?_;rintro e w1 ⟨A,c,S,rfl,ho,hb⟩;obtain⟨⟨b0,b1,b2⟩,⟨f0,f1,f2⟩,hz⟩:=box3p hb)
     refine bodyPost_ret (v:=.tuple #[.agg #[.int .i64 5,.string ⟨#[]⟩,.slice (some ⟨w1.heap.size+1,0,none⟩) 1 1],.int .i64 ((k:Int)+1)]) (by simp [results,Tryz.results155,go_sem,b0,b1,b2,hz]) rfl ?_
     exact⟨some ⟨w1.heap.size+1,0,none⟩,1,_,by rw [HK2.out];rfl,(star_own 5 ho hz).to (by omega),below_al (below_al (set3_below hb) _) _⟩
    ·have hq3:((s[k].toNat:Int)==63)=false:=by rw [hd];exact byte_ne (d:=63) h63
     by_cases h43:d=43
     ·have hq4:((s[k].toNat:Int)==43)=true:=by rw [hd,h43];rfl
      have e:Option.map (fun x=>repT x.1 x.2) (some (p,d::r'))=some (opP 2 [p,opP 4 [p]],r'):=by rw [h43];rfl
      rw [e]
      clear e hd h42 h63 h43
      go_enter Tryz.func155,Tryz.ntmps155
      go_wp2_with (first
       |(go_at_call 175;((with_reducible refine(HC2.out (w.alloc _)).mono ?_);rintro e w1 ⟨A,c,S,rfl,ho,hb⟩;obtain⟨⟨b0,b1,b2⟩,⟨f0,f1,f2⟩,hz⟩:=box3p hb))
       |(go_at_call 175;((refine(HC2.out _).mono ?_);rintro e w2 ⟨A2,c2,S2,rfl,ho2,hb2⟩;obtain⟨⟨a0,a1,a2⟩,_,hz2⟩:=box3p hb2;clear b0 b1 b2 f0 f1 f2;have hb3:=below_step hb (below_step (below_al (Below.refl _ _) _) hb2);obtain⟨⟨b0,b1,b2⟩,⟨f0,f1,f2⟩,hz3⟩:=box3p hb3;have q0:w1.heap.size≤w2.heap.size:=(by omega);have q1:w1.heap.size≤w2.heap.size+1:=(by omega);have q2:w1.heap.size≤w2.heap.size+1+1:=(by omega);have q3:w1.heap.size<w2.heap.size+1+1:=(by omega);have p0:w.heap.size≤w2.heap.size:=(by omega);have p1:w.heap.size≤w2.heap.size+1:=(by omega);have p2:w.heap.size≤w2.heap.size+1+1:=(by omega);have p3:w.heap.size<w2.heap.size+1+1:=(by omega))))
      refine bodyPost_ret (v:=.tuple #[.agg #[.int .i64 2,.string ⟨#[]⟩,.slice (some ⟨w2.heap.size+1+1+1,0,none⟩) 2 2],.int .i64 ((k:Int)+1)]) (by simp [results,Tryz.results155,go_sem,b0,b1,b2,hz3,p0,p1,p2,p3]) rfl ?_
      exact⟨some ⟨w2.heap.size+1+1+1,0,none⟩,2,_,by rw [HK2.out];rfl,plus_own ho hz hb2 ho2,below_al (below_al (below_al (below_al (set3_below hb3) _) _) _) _⟩
     ·have hq4:((s[k].toNat:Int)==43)=false:=by rw [hd];exact byte_ne (d:=43) h43
      have e:Option.map (fun x=>repT x.1 x.2) (some (p,d::r'))=some (p,d::r'):=by simp [repT,h42,h63,h43]
      rw [e]
      clear e hd h42 h63 h43
      go_enter Tryz.func155,Tryz.ntmps155
      go_wp2_with (go_at_call 175;refine(HC2.out _).mono ?_;rintro e w1 ⟨A,c,S,rfl,ho,hb⟩;obtain⟨⟨b0,b1,b2⟩,⟨f0,f1,f2⟩,hz⟩:=box3p hb)
      refine bodyPost_ret (v:=.tuple #[.agg #[.int .i64 p.x.op,.string p.x.text,.slice A p.kids.length c],.int .i64 (k:Int)]) (by simp [results,Tryz.results155,go_sem,b0,b1,b2,hz]) rfl ?_
      exact⟨A,c,S,by rw [HK1.out],(((((OwN.set ho (by simp)).set (by simp)).set (by simp)).al _).mono (by simp)).to (by omega),below_al (set3_below hb) _⟩
end
section
open Go.RowKit

section
variable {S:Nat→Prop} {w w1:World} {o:Obj}
theorem turns_al (h:TurnsAt S w w1)(o:Obj):TurnsAt S w (w1.alloc o):=h.trans (below_turns (below_al (Below.refl _ _) o))
theorem turns_of_al (h:TurnsAt S (w.alloc o) w1):TurnsAt S w w1:=(below_turns (below_al (Below.refl _ _) o)).trans h
theorem turns_new {b j:Nat}{u:Value}(h:TurnsAt S w w1)(hb:w.heap.size≤b):TurnsAt S w (w1.setCell ⟨b,j,none⟩ u):=
 ⟨h.os,h.tape,h.output,by simpa [World.setCell]using h.size,fun q hq hs=>(Below.heap_setCell w1 ⟨b,j,none⟩ u q (fun e=>by simp at e;omega)).trans (h.block q hq hs)⟩
theorem box3t {b:Nat}{v0 v1 v2:Value}{t:TypeId}(h:RT b (w.alloc (.cells #[v0,v1,v2] t)) w1)(hb:b<w.heap.size):
  (w1.cell? ⟨w.heap.size,0,none⟩=some v0∧w1.cell? ⟨w.heap.size,1,none⟩=some v1∧w1.cell? ⟨w.heap.size,2,none⟩=some v2)∧(w1.frozen? ⟨w.heap.size,0,none⟩=false∧w1.frozen? ⟨w.heap.size,1,none⟩=false∧w1.frozen? ⟨w.heap.size,2,none⟩=false)∧w.heap.size<w1.heap.size:=by
 have hl:w.heap.size<(w.alloc (.cells #[v0,v1,v2] t)).heap.size:=by simp
 have hq:w1.heap[w.heap.size]? =some (.cells #[v0,v1,v2] t (0,0)):=(h.block _ hl (by show ¬w.heap.size=b;omega)).trans (heap_alloc_new w _)
 refine⟨⟨?_,?_,?_⟩,⟨?_,?_,?_⟩,Nat.lt_of_lt_of_le hl h.size⟩
 ·rw [cell_of_row _ w.heap.size 0 _ _ _ hq];rfl
 ·rw [cell_of_row _ w.heap.size 1 _ _ _ hq];rfl
 ·rw [cell_of_row _ w.heap.size 2 _ _ _ hq];rfl
 all_goals simp [World.frozen?,hq]
theorem PS.al {b:Nat}{s:ByteArray}{i:Nat}{bad:Bool}(h:PS w b s i bad)(o:Obj):PS (w.alloc o) b s i bad:=h.below (below_al (Below.refl _ _) _)
theorem PS.setNew {b c j:Nat}{s:ByteArray}{i:Nat}{bad:Bool}{u:Value}(h:PS w b s i bad)(hc:c≠b):PS (w.setCell ⟨c,j,none⟩ u) b s i bad:=(Below.heap_setCell w ⟨c,j,none⟩ u b (fun e=>hc e.symm)).trans h
end
theorem ch40:(40:Int)=((40:UInt8).toNat:Int):=rfl
theorem ch41:(41:Int)=((41:UInt8).toNat:Int):=rfl
theorem ch42:(42:Int)=((42:UInt8).toNat:Int):=rfl
theorem ch43:(43:Int)=((43:UInt8).toNat:Int):=rfl
theorem ch46:(46:Int)=((46:UInt8).toNat:Int):=rfl
theorem ch63:(63:Int)=((63:UInt8).toNat:Int):=rfl
theorem ch91:(91:Int)=((91:UInt8).toNat:Int):=rfl
theorem ch93:(93:Int)=((93:UInt8).toNat:Int):=rfl
theorem ch126:(126:Int)=((126:UInt8).toNat:Int):=rfl
def okR:List UInt8→Bool
 | []=>true
 | c::_=>c==124 || c==41
def SOut (d:Nat)(o:Option (Pat×List UInt8))(b:Nat)(s:ByteArray)(w:World)(e:Ending)(w':World):Prop:=match o with
 | none=>∃(op:Int) (text:ByteArray) (A:Option Addr) (m c i:Nat),e=.returned (.agg #[.int .i64 op,.string text,.slice A m c])∧PS w' b s i true∧RT b w w'
 | some (p,r)=>∃(A:Option Addr) (c:Nat) (S:Nat→Prop),e=.returned (.agg #[.int .i64 p.x.op,.string p.x.text,.slice A p.kids.length c])∧OwN patK d w.heap.size w' ⟨p.x.op,p.x.text,.slice A p.kids.length c⟩ p S∧PS w' b s (s.size-r.length) false∧RT b w w'
def SAtomC (n:Nat):Prop:=∀(b:Nat) (s:ByteArray) (i:Nat) (w:World),PS w b s i false→s.size≤30→i≤s.size→s.size-i≤n→Calls Tryz.prog 137 #[.pointer (some ⟨b,0,none⟩)] w (SOut (4*n) (atomF n (s.data.toList.drop i)) b s w)
def SSeqC (n:Nat):Prop:=∀(b:Nat) (s:ByteArray) (i:Nat) (w:World),PS w b s i false→s.size≤30→i≤s.size→s.size-i≤n→Calls Tryz.prog 119 #[.pointer (some ⟨b,0,none⟩)] w (SOut (4*n+3) (if okR (seqP (atomF n) (s.data.toList.drop i)).2=true then some (seqP (atomF n) (s.data.toList.drop i))else none) b s w)
def SAltC (n:Nat):Prop:=∀(b:Nat) (s:ByteArray) (i:Nat) (w:World),PS w b s i false→s.size≤30→i≤s.size→s.size-i≤n→Calls Tryz.prog 95 #[.pointer (some ⟨b,0,none⟩)] w (SOut (4*n+4) (if okR (altP (atomF n) (s.data.toList.drop i)).2=true then some (altP (atomF n) (s.data.toList.drop i))else none) b s w)
def SClassC:Prop:=∀(b:Nat) (s:ByteArray) (i:Nat) (w:World),PS w b s i false→s.size≤30→i≤s.size→Calls Tryz.prog 162 #[.pointer (some ⟨b,0,none⟩)] w (SOut 0 (classL (s.data.toList.drop i)) b s w)
section
variable {d k b:Nat} {p:Pat} {r:List UInt8} {s:ByteArray} {w w1:World} {o:Obj} {A:Option Addr} {c:Nat} {S:Nat→Prop} {x0 x1 x2:Value}
theorem s_some (ho:OwN patK d (w.alloc o).heap.size w1 ⟨p.x.op,p.x.text,.slice A p.kids.length c⟩ p S)(hP:PS w1 b s k false)(hk:s.size-r.length=k)(ht:RT b (w.alloc o) w1)(hb:b<w.heap.size){e:Nat}(he:d≤e):
  SOut e (some (p,r)) b s w (.returned (.agg #[.int .i64 p.x.op,.string p.x.text,.slice A p.kids.length c])) (((w1.setCell ⟨w.heap.size,0,none⟩ x0).setCell ⟨w.heap.size,1,none⟩ x1).setCell ⟨w.heap.size,2,none⟩ x2):=
 ⟨A,c,S,rfl,((((OwN.set ho (by simp)).set (by simp)).set (by simp)).mono (by simp)).to he,by rw [hk];exact((hP.setNew (by omega)).setNew (by omega)).setNew (by omega),turns_new (turns_new (turns_new (turns_of_al ht) (Nat.le_refl _)) (Nat.le_refl _)) (Nat.le_refl _)⟩
theorem s_none {op:Int}{text:ByteArray}{m i:Nat}(hP:PS w1 b s i true)(ht:RT b (w.alloc o) w1)(hb:b<w.heap.size):
  SOut d none b s w (.returned (.agg #[.int .i64 op,.string text,.slice A m c])) (((w1.setCell ⟨w.heap.size,0,none⟩ x0).setCell ⟨w.heap.size,1,none⟩ x1).setCell ⟨w.heap.size,2,none⟩ x2):=
 ⟨op,text,A,m,c,i,rfl,((hP.setNew (by omega)).setNew (by omega)).setNew (by omega),turns_new (turns_new (turns_new (turns_of_al ht) (Nat.le_refl _)) (Nat.le_refl _)) (Nat.le_refl _)⟩
end
theorem no_bad (s:ByteArray)(i:Nat)(d:UInt8):NoNext s i true d:=.inl rfl
theorem no_head {s:ByteArray}{i:Nat}{c d:UInt8}(h:∀h:i<s.size,s[i]=c)(hne:c≠d):NoNext s i false d:=.inr fun hl e=>hne ((h hl).symm.trans e)
theorem no_end {s:ByteArray}{i:Nat}{d:UInt8}{bad:Bool}(h:¬i<s.size):NoNext s i bad d:=.inr fun hl=>absurd hl h
def innerR (x:Pat×List UInt8):Option (Pat×List UInt8):=match x.2 with
 | []=>none
 | d::r'=>if d=41 then some (x.1,r')else none
theorem innerR_bad {p:Pat}{r:List UInt8}(h:okR r=false):innerR (p,r)=none:=by
 cases r with
 | nil=>rfl
 | cons d r' =>
  simp only [okR,Bool.or_eq_false_iff,beq_eq_false_iff_ne]at h
  exact if_neg h.2
theorem innerR_ne {p:Pat}{r:List UInt8}(h:∀d r',r=d::r'→d≠41):innerR (p,r)=none:=by
 cases r with
 | nil=>rfl
 | cons d r'=>exact if_neg (h d r' rfl)
theorem s3Let_q (c:UInt8)(b:Bool)(h:letB c=b)(w:World):Calls Tryz.prog 164 #[.int .u8 c.toNat] w fun e w'=>e=.returned (.bool b)∧w'=w:=
 (s3Let_any c w).mono fun _ _ ⟨he,hw⟩=>⟨by rw [he,h],hw.symm⟩
theorem s3Dig_q (c:UInt8)(b:Bool)(h:digB c=b)(w:World):Calls Tryz.prog 165 #[.int .u8 c.toNat] w fun e w'=>e=.returned (.bool b)∧w'=w:=
 (s3Dig_any c w).mono fun _ _ ⟨he,hw⟩=>⟨by rw [he,h],hw.symm⟩
theorem satom_end (d b:Nat)(s:ByteArray)(i:Nat)(w:World)(hP:PS w b s i false)(h30:s.size≤30)(hlt:¬i<s.size):Calls Tryz.prog 137 #[.pointer (some ⟨b,0,none⟩)] w (SOut d none b s w):=by
 have hbl:=hP.lt
 have hnb:¬w.heap.size=b:=by omega
 have hnb':¬b=w.heap.size:=by omega
 have hs:s.size≤maxLen:=by unfold maxLen;omega
 have hs9:s.size≤9223372036854775807:=by omega
 have hP0:=hP.al (.cells #[.int .i64 0,.string ⟨#[]⟩,.slice none 0 0] 92)
 have n40:NoNext s i false 40:=no_end hlt
 have n91:NoNext s i false 91:=no_end hlt
 have n46:NoNext s i false 46:=no_end hlt
 have hq1:decide ((i:Int)<(s.size:Int))=false:=by simp;omega
 have hq2:¬(i:Int)<(s.size:Int):=by omega
 clear hP h30
 go_enter Tryz.func137,Tryz.ntmps137
 go_wp2_with (first
  |(go_at_call 120;((with_reducible refine(next_no b s hs i false 40 40 ch40 _ hP0 n40).mono ?_);rintro e wa ⟨rfl,hPa,hTa⟩;clear hP0))
  |(go_at_call 120;((with_reducible refine(next_no b s hs i false 91 91 ch91 _ hPa n91).mono ?_);rintro e wb ⟨rfl,hPb,hTb⟩;clear hPa))
  |(go_at_call 120;((with_reducible refine(next_no b s hs i false 46 46 ch46 _ hPb n46).mono ?_);rintro e w3 ⟨rfl,hP3,hTc⟩;have hT03:RT b (w.alloc (.cells #[.int .i64 0,.string ⟨#[]⟩,.slice none 0 0] 92)) w3:=(hTa.trans hTb).trans hTc;obtain⟨⟨b0,b1,b2⟩,⟨f0,f1,f2⟩,hz3⟩:=box3t hT03 hbl;obtain⟨⟨p0,p1,p2⟩,g1,g2⟩:=hP3.cells;clear hPb)))
 go_quiet (fail)
 go_wp2
 refine bodyPost_ret (v:=.agg #[.int .i64 0,.string ⟨#[]⟩,.slice none 0 0]) (by simp [results,Tryz.results137,go_sem,b0,b1,b2,hz3,hnb,hnb']) rfl ?_
 exact s_none ((hP3.drewN _).set2 true) ((hT03.trans (turns_drewN _ _)).trans (turns_set _ _ _ _ rfl)) hbl
theorem satom_0:SAtomC 0:=by
 intro b s i w hP h30 hi hn
 exact satom_end _ b s i w hP h30 (by omega)
theorem satom_of {n:Nat}(hA:SAltC n)(hK:SClassC):SAtomC (n+1):=by
 intro b s i w hP h30 hi hn
 have hbl:=hP.lt
 have hnb:¬w.heap.size=b:=by omega
 have hnb':¬b=w.heap.size:=by omega
 have hs:s.size≤maxLen:=by unfold maxLen;omega
 have hs9:s.size≤9223372036854775807:=by omega
 have hP0:=hP.al (.cells #[.int .i64 0,.string ⟨#[]⟩,.slice none 0 0] 92)
 have hT0:=TurnsAt.refl (fun q=>q=b) (w.alloc (.cells #[.int .i64 0,.string ⟨#[]⟩,.slice none 0 0] 92))
 by_cases hlt:i<s.size
 ·obtain⟨c,hc⟩:∃c,c=s[i]:=⟨_,rfl⟩
  have hd:s.data.toList.drop i=c::s.data.toList.drop (i+1):=by rw [data_drop s i hlt,hc]
  have HX:Hid (atomF (n+1) (s.data.toList.drop i)=atomL (altP (atomF n)) (c::s.data.toList.drop (i+1))):=hid (by rw [←hd];rfl)
  rw [HX.out]
  have hcc:∀h:i<s.size,s[i]=c:=fun _=>hc.symm
  by_cases h40:c=40
  ·have he:s[i]=40:=by rw [←hc,h40]
   have e:atomL (altP (atomF n)) (c::s.data.toList.drop (i+1))=innerL n (s.data.toList.drop (i+1)):=by rw [h40];rfl
   rw [e]
   have hC:=fun w hP=>hA b s (i+1) w hP h30 (by omega) (by omega)
   rw [show innerL n (s.data.toList.drop (i+1))=innerR (altP (atomF n) (s.data.toList.drop (i+1)))from rfl]
   have hsuf:=altP_suf (atomF_sh n) (s.data.toList.drop (i+1))
   obtain⟨⟨p,r⟩,hpr⟩:∃x,x=altP (atomF n) (s.data.toList.drop (i+1)):=⟨_,rfl⟩
   rw [←hpr]at hC hsuf ⊢
   have hr:=hsuf.drop
   have hrl:=hsuf.len
   have hlen:(s.data.toList.drop (i+1)).length=s.size-(i+1):=by simp
   simp only [hlen]at hr hrl hC ⊢
   rw [List.drop_drop]at hr
   have hkk:i+1+(s.size-(i+1)-r.length)=s.size-r.length:=by omega
   rw [hkk]at hr
   obtain⟨k,hk⟩:∃k,s.size-r.length=k:=⟨_,rfl⟩
   rw [hk]at hr
   have HK:=hid hk
   have HE:=hid he
   cases hok:okR r with
   | false =>
    rw [hok,if_neg (by decide)]at hC
    have HC:=hid hC
    have en:=innerR_bad (p:=p) hok
    rw [en]
    clear hC hA hK h30 hi hn HX hP hd hcc hc h40 e hpr hsuf hr hrl hlen hkk hk hok en he
    go_enter Tryz.func137,Tryz.ntmps137
    go_wp2_with (first
     |(go_at_call 120;((with_reducible refine(next_yes b s hs i 40 40 ch40 _ hP0 hlt HE.out).mono ?_);rintro e w1 ⟨rfl,hP1,hT1⟩;clear hP0))
     |(go_at_call 95;((refine(HC.out _ hP1).mono ?_);rintro e w2 ⟨op,text,A,m,cc,j,rfl,hP2,hT2⟩;have hT12:=hT1.trans hT2;clear hP1 hT1 hT2;have hb2:b<w2.heap.size:=hP2.lt;have hP2':=hP2.al (.cells #[.int .i64 op,.string text,.slice A m cc] 92);clear hP2))
     |(go_at_call 120;((with_reducible refine(next_no b s hs j true 41 41 ch41 _ hP2' (no_bad s j 41)).mono ?_);rintro e w3 ⟨rfl,hP3,hT3⟩;obtain⟨⟨a0,a1,a2⟩,_,hz2⟩:=box3t hT3 hb2;have hT03:RT b _ w3:=hT12.trans (turns_of_al hT3);obtain⟨⟨b0,b1,b2⟩,⟨f0,f1,f2⟩,hz3⟩:=box3t hT03 hbl;obtain⟨⟨p0,p1,p2⟩,g1,g2⟩:=hP3.cells)))
    refine bodyPost_ret (v:=.agg #[.int .i64 op,.string text,.slice A m cc]) (by simp [results,Tryz.results137,go_sem,b0,b1,b2,hz3,hnb,hnb']) rfl ?_
    exact s_none (hP3.set2 true) (hT03.trans (turns_set _ _ _ _ rfl)) hbl
   | true =>
    rw [hok,if_pos rfl]at hC
    have HC:Hid (∀w,PS w b s (i+1) false→Calls Tryz.prog 95 #[.pointer (some ⟨b,0,none⟩)] w fun e w'=>∃(A:Option Addr) (c:Nat) (S:Nat→Prop),e=.returned (.agg #[.int .i64 p.x.op,.string p.x.text,.slice A p.kids.length c])∧OwN patK (4*n+4) w.heap.size w' ⟨p.x.op,p.x.text,.slice A p.kids.length c⟩ p S∧PS w' b s k false∧RT b w w'):=hid (by rw [←hk];exact hC)
    by_cases h41:∃h:k<s.size,s[k]=41
    ·obtain⟨hlk,hk41⟩:=h41
     have hr2:r=41::s.data.toList.drop (k+1):=by rw [hr,data_drop s k hlk,hk41]
     have en:innerR (p,r)=some (p,s.data.toList.drop (k+1)):=by rw [hr2];rfl
     rw [en]
     have HK2:Hid (s.size-(s.data.toList.drop (k+1)).length=k+1):=hid (by simp;omega)
     have HE2:=hid hk41
     clear hC hA hK h30 hi hn HX hP hd hcc hc h40 e hpr hsuf hr hrl hlen hkk hk hok en he hr2 hk41
     go_enter Tryz.func137,Tryz.ntmps137
     go_wp2_with (first
      |(go_at_call 120;((with_reducible refine(next_yes b s hs i 40 40 ch40 _ hP0 hlt HE.out).mono ?_);rintro e w1 ⟨rfl,hP1,hT1⟩;clear hP0))
      |(go_at_call 95;((refine(HC.out _ hP1).mono ?_);rintro e w2 ⟨A,cc,S,rfl,ho,hP2,hT2⟩;have ho0:=ho.mono hT1.size;have hT12:=hT1.trans hT2;clear hP1 hT2 ho;have hb2:b<w2.heap.size:=hP2.lt;have hP2':=hP2.al (.cells #[.int .i64 p.x.op,.string p.x.text,.slice A p.kids.length cc] 92);clear hP2))
      |(go_at_call 120;((with_reducible refine(next_yes b s hs k 41 41 ch41 _ hP2' hlk HE2.out).mono ?_);rintro e w3 ⟨rfl,hP3,hT3⟩;obtain⟨⟨a0,a1,a2⟩,_,hz2⟩:=box3t hT3 hb2;have hT03:RT b _ w3:=hT12.trans (turns_of_al hT3);obtain⟨⟨b0,b1,b2⟩,⟨f0,f1,f2⟩,hz3⟩:=box3t hT03 hbl)))
     refine bodyPost_ret (v:=.agg #[.int .i64 p.x.op,.string p.x.text,.slice A p.kids.length cc]) (by simp [results,Tryz.results137,go_sem,b0,b1,b2,hz3,hnb,hnb']) rfl ?_
     exact s_some (ho0.apart (turns_of_al hT3) (fun q hq e=>by have:=(ho0.lt q hq).1;simp at this;omega)) hP3 HK2.out hT03 hbl (by omega)
    ·have en:innerR (p,r)=none:=innerR_ne (fun d r' e41=>by
      rw [e41]at hr
      obtain⟨hlk,hd2,_⟩:=drop_head hr
      intro e2
      exact h41 ⟨hlk,hd2.trans e2⟩)
     rw [en]
     have hNo:NoNext s k false 41:=.inr fun h e2=>h41 ⟨h,e2⟩
     clear hC hA hK h30 hi hn HX hP hd hcc hc h40 e hpr hsuf hr hrl hlen hkk hk hok en he h41
     go_enter Tryz.func137,Tryz.ntmps137
     go_wp2_with (first
      |(go_at_call 120;((with_reducible refine(next_yes b s hs i 40 40 ch40 _ hP0 hlt HE.out).mono ?_);rintro e w1 ⟨rfl,hP1,hT1⟩;clear hP0))
      |(go_at_call 95;((refine(HC.out _ hP1).mono ?_);rintro e w2 ⟨A,cc,S,rfl,ho,hP2,hT2⟩;have hT12:=hT1.trans hT2;clear hP1 hT2 ho;have hb2:b<w2.heap.size:=hP2.lt;have hP2':=hP2.al (.cells #[.int .i64 p.x.op,.string p.x.text,.slice A p.kids.length cc] 92);clear hP2))
      |(go_at_call 120;((with_reducible refine(next_no b s hs k false 41 41 ch41 _ hP2' hNo).mono ?_);rintro e w3 ⟨rfl,hP3,hT3⟩;obtain⟨⟨a0,a1,a2⟩,_,hz2⟩:=box3t hT3 hb2;have hT03:RT b _ w3:=hT12.trans (turns_of_al hT3);obtain⟨⟨b0,b1,b2⟩,⟨f0,f1,f2⟩,hz3⟩:=box3t hT03 hbl;obtain⟨⟨p0,p1,p2⟩,g1,g2⟩:=hP3.cells)))
     refine bodyPost_ret (v:=.agg #[.int .i64 p.x.op,.string p.x.text,.slice A p.kids.length cc]) (by simp [results,Tryz.results137,go_sem,b0,b1,b2,hz3,hnb,hnb']) rfl ?_
     exact s_none (hP3.set2 true) (hT03.trans (turns_set _ _ _ _ rfl)) hbl
  ·have n40:NoNext s i false 40:=no_head hcc h40
   by_cases h91:c=91
   ·have HE:Hid (s[i]=91):=hid (by rw [←hc,h91])
    have e:atomL (altP (atomF n)) (c::s.data.toList.drop (i+1))=classL (s.data.toList.drop (i+1)):=by rw [h91];rfl
    rw [e]
    have HC:=hid (fun w hP=>hK b s (i+1) w hP h30 (by omega))
    generalize classL (s.data.toList.drop (i+1))=o at HC
    clear hA hK h30 hi hn HX hP hd hcc hc h40 h91 e
    cases o with
    | none =>
     go_enter Tryz.func137,Tryz.ntmps137
     go_wp2_with (first
      |(go_at_call 120;((with_reducible refine(next_no b s hs i false 40 40 ch40 _ hP0 n40).mono ?_);rintro e wa ⟨rfl,hPa,hTa⟩;clear hP0))
      |(go_at_call 120;((with_reducible refine(next_yes b s hs i 91 91 ch91 _ hPa hlt HE.out).mono ?_);rintro e wb ⟨rfl,hPb,hTb⟩;clear hPa))
      |(go_at_call 162;((refine(HC.out _ hPb).mono ?_);rintro e w3 ⟨op,text,A,m,cc,j,rfl,hP3,hTc⟩;have hT03:RT b _ w3:=(hTa.trans hTb).trans hTc;obtain⟨⟨b0,b1,b2⟩,⟨f0,f1,f2⟩,hz3⟩:=box3t hT03 hbl)))
     refine bodyPost_ret (v:=.agg #[.int .i64 op,.string text,.slice A m cc]) (by simp [results,Tryz.results137,go_sem,b0,b1,b2,hz3,hnb,hnb']) rfl ?_
     exact s_none hP3 hT03 hbl
    | some x =>
     obtain⟨p,r⟩:=x
     go_enter Tryz.func137,Tryz.ntmps137
     go_wp2_with (first
      |(go_at_call 120;((with_reducible refine(next_no b s hs i false 40 40 ch40 _ hP0 n40).mono ?_);rintro e wa ⟨rfl,hPa,hTa⟩;clear hP0))
      |(go_at_call 120;((with_reducible refine(next_yes b s hs i 91 91 ch91 _ hPa hlt HE.out).mono ?_);rintro e wb ⟨rfl,hPb,hTb⟩;clear hPa))
      |(go_at_call 162;((refine(HC.out _ hPb).mono ?_);rintro e w3 ⟨A,cc,S,rfl,ho,hP3,hTc⟩;have hT02:RT b _ wb:=hTa.trans hTb;have hT03:RT b _ w3:=hT02.trans hTc;have ho0:=ho.mono hT02.size;obtain⟨⟨b0,b1,b2⟩,⟨f0,f1,f2⟩,hz3⟩:=box3t hT03 hbl)))
     refine bodyPost_ret (v:=.agg #[.int .i64 p.x.op,.string p.x.text,.slice A p.kids.length cc]) (by simp [results,Tryz.results137,go_sem,b0,b1,b2,hz3,hnb,hnb']) rfl ?_
     exact s_some ho0 hP3 rfl hT03 hbl (by omega)
   ·have n91:NoNext s i false 91:=no_head hcc h91
    by_cases h46:c=46
    ·have HE:Hid (s[i]=46):=hid (by rw [←hc,h46])
     have e:atomL (altP (atomF n)) (c::s.data.toList.drop (i+1))=some (charsP anyL,s.data.toList.drop (i+1)):=by rw [h46];rfl
     rw [e]
     have HK:Hid (s.size-(s.data.toList.drop (i+1)).length=i+1):=hid (by simp;omega)
     clear hA hK h30 hi hn HX hP hd hcc hc h40 h91 h46 e
     go_enter Tryz.func137,Tryz.ntmps137
     go_wp2_with (first
      |(go_at_call 120;((with_reducible refine(next_no b s hs i false 40 40 ch40 _ hP0 n40).mono ?_);rintro e wa ⟨rfl,hPa,hTa⟩;clear hP0))
      |(go_at_call 120;((with_reducible refine(next_no b s hs i false 91 91 ch91 _ hPa n91).mono ?_);rintro e wb ⟨rfl,hPb,hTb⟩;clear hPa))
      |(go_at_call 120;((with_reducible refine(next_yes b s hs i 46 46 ch46 _ hPb hlt HE.out).mono ?_);rintro e wc ⟨rfl,hPc,hTc⟩;clear hPb))
      |(go_at_call 163;((refine(sAny_any _).mono ?_);rintro e w3 ⟨rfl,hb3⟩;have hP3:=hPc.below hb3;have hT03:RT b _ w3:=((hTa.trans hTb).trans hTc).trans (below_turns hb3);obtain⟨⟨b0,b1,b2⟩,⟨f0,f1,f2⟩,hz3⟩:=box3t hT03 hbl)))
     refine bodyPost_ret (v:=.agg #[.int .i64 1,.string ⟨anyL.toArray⟩,.slice none 0 0]) (by simp [results,Tryz.results137,go_sem,b0,b1,b2,hz3,hnb,hnb']) rfl ?_
     exact s_some (p:=charsP anyL) (d:=0) (owN_leaf _ _ _ _ _) hP3 HK.out hT03 hbl (by omega)
    ·have n46:NoNext s i false 46:=no_head hcc h46
     have hlt1:(i:Int)<(s.size:Int):=by omega
     have hq1:decide ((i:Int)<(s.size:Int))=true:=by simp;omega
     cases hnbc:nbB c
     ·have e:atomL (altP (atomF n)) (c::s.data.toList.drop (i+1))=none:=by simp [atomL,h40,h91,h46,hnbc]
      rw [e]
      have hnbs:nbB s[i]=false:=by rw [←hc];exact hnbc
      have hl1:letB s[i]=false:=by unfold nbB at hnbs;simp at hnbs;exact hnbs.1.1
      have hl2:digB s[i]=false:=by unfold nbB at hnbs;simp at hnbs;exact hnbs.1.2
      have hl3:s[i]≠45:=by unfold nbB at hnbs;simp at hnbs;exact hnbs.2
      have hq3:((s[i].toNat:Int)==45)=false:=byte_ne (d:=45) hl3
      have H1:=hid hl1
      have H2:=hid hl2
      clear hA hK h30 hi hn HX hP hd hcc hc h40 h91 h46 e hnbs hl1 hl2 hl3 hnbc
      go_enter Tryz.func137,Tryz.ntmps137
      go_wp2_with (first
       |(go_at_call 120;((with_reducible refine(next_no b s hs i false 40 40 ch40 _ hP0 n40).mono ?_);rintro e wa ⟨rfl,hPa,hTa⟩;clear hP0))
       |(go_at_call 120;((with_reducible refine(next_no b s hs i false 91 91 ch91 _ hPa n91).mono ?_);rintro e wb ⟨rfl,hPb,hTb⟩;clear hPa))
       |(go_at_call 120;((with_reducible refine(next_no b s hs i false 46 46 ch46 _ hPb n46).mono ?_);rintro e w3 ⟨rfl,hP3,hTc⟩;have hT03:RT b _ w3:=(hTa.trans hTb).trans hTc;obtain⟨⟨b0,b1,b2⟩,⟨f0,f1,f2⟩,hz3⟩:=box3t hT03 hbl;obtain⟨⟨p0,p1,p2⟩,g1,g2⟩:=hP3.cells;clear hPb)))
      go_quiet ((first|(go_at_call 164;exact Calls.quiet_of_same (s3Let_q _ false H1.out _))|(go_at_call 165;exact Calls.quiet_of_same (s3Dig_q _ false H2.out _))))
      go_wp2
      refine bodyPost_ret (v:=.agg #[.int .i64 0,.string ⟨#[]⟩,.slice none 0 0]) (by simp [results,Tryz.results137,go_sem,b0,b1,b2,hz3,hnb,hnb']) rfl ?_
      exact s_none ((hP3.drewN _).set2 true) ((hT03.trans (turns_drewN _ _)).trans (turns_set _ _ _ _ rfl)) hbl
     ·have e:atomL (altP (atomF n)) (c::s.data.toList.drop (i+1))=some (charsP [c],s.data.toList.drop (i+1)):=by simp [atomL,h40,h91,h46,hnbc]
      rw [e]
      have hnbs:nbB s[i]=true:=by rw [←hc];exact hnbc
      have HK:Hid (s.size-(s.data.toList.drop (i+1)).length=i+1):=hid (by simp;omega)
      have HX1:Hid (s.extract i (i+1)=⟨[c].toArray⟩):=hid (by
       apply ByteArray.ext;apply Array.toList_inj.1
       rw [Lib.extract_data,hd];simp)
      obtain⟨v1,hv1⟩:∃x,letB s[i]=x:=⟨_,rfl⟩
      obtain⟨v2,hv2⟩:∃x,digB s[i]=x:=⟨_,rfl⟩
      have hv3:v1=false→v2=false→((s[i].toNat:Int)==45)=true:=fun h1 h2=>by
       unfold nbB at hnbs;rw [hv1,hv2,h1,h2]at hnbs;simp at hnbs;rw [hnbs];rfl
      have H1:=hid hv1
      have H2:=hid hv2
      have hi9:(i:Int)+1≤(s.size:Int):=by omega
      clear hA hK h30 hi hn HX hP hd hcc hc h40 h91 h46 e hnbs hnbc hv1 hv2
      cases v1
      ·cases v2
       ·have hq3:=hv3 rfl rfl
        clear hv3
        go_enter Tryz.func137,Tryz.ntmps137
        go_wp2_with (first
         |(go_at_call 120;((with_reducible refine(next_no b s hs i false 40 40 ch40 _ hP0 n40).mono ?_);rintro e wa ⟨rfl,hPa,hTa⟩;clear hP0))
         |(go_at_call 120;((with_reducible refine(next_no b s hs i false 91 91 ch91 _ hPa n91).mono ?_);rintro e wb ⟨rfl,hPb,hTb⟩;clear hPa))
         |(go_at_call 120;((with_reducible refine(next_no b s hs i false 46 46 ch46 _ hPb n46).mono ?_);rintro e w3 ⟨rfl,hP3,hTc⟩;have hT03:RT b _ w3:=(hTa.trans hTb).trans hTc;obtain⟨⟨b0,b1,b2⟩,⟨f0,f1,f2⟩,hz3⟩:=box3t hT03 hbl;obtain⟨⟨p0,p1,p2⟩,g1,g2⟩:=hP3.cells;clear hPb)))
        go_quiet ((first|(go_at_call 164;exact Calls.quiet_of_same (s3Let_q _ _ H1.out _))|(go_at_call 165;exact Calls.quiet_of_same (s3Dig_q _ _ H2.out _))))
        go_wp2
        have hP4:PS ((w3.drewN nq).setCell ⟨b,1,none⟩ (.int .i64 ((i:Int)+1))) b s (i+1) false:=(hP3.drewN nq).set1 (i+1)
        have hT04:RT b (w.alloc (.cells #[.int .i64 0,.string ⟨#[]⟩,.slice none 0 0] 92)) ((w3.drewN nq).setCell ⟨b,1,none⟩ (.int .i64 ((i:Int)+1))):=(hT03.trans (turns_drewN _ _)).trans (turns_set _ _ _ _ rfl)
        generalize (w3.drewN nq).setCell ⟨b,1,none⟩ (.int .i64 ((i:Int)+1))=W0 at hP4 hT04 ⊢
        obtain⟨⟨k0,k1',k2⟩,_,_⟩:=hP4.cells
        have k1:W0.cell? ⟨b,1,none⟩=some (.int .i64 ((i:Int)+1)):=k1'
        clear k1' b0 b1 b2 f0 f1 f2 hz3 p0 p1 p2 g1 g2 hP3 hT03 hTa hTb hTc
        have q0:(0:Int)≤(i:Int):=by omega
        have q3:(i:Int)≤(i:Int)+1:=by omega
        have q4:((i:Int)+1).toNat=i+1:=by omega
        have q1:IntKind.i64.wrap ((i:Int)+1-1)=(i:Int):=by rw [show(i:Int)+1-1=(i:Int)by omega];exact IntWalk.i64_in _ (by omega)
        go_still_tail 13,(by kernel_rfl)
        repeat still_step
        change wpList _ _ _ _ _ W0.drew
        have hP5:PS W0.drew b s (i+1) false:=hP4
        have hT05:RT b (w.alloc (.cells #[.int .i64 0,.string ⟨#[]⟩,.slice none 0 0] 92)) W0.drew:=hT04.trans (turns_drewN W0 1)
        generalize W0.drew=W1 at hP5 hT05 ⊢
        obtain⟨⟨b0,b1,b2⟩,⟨f0,f1,f2⟩,hz3⟩:=box3t hT05 hbl
        go_wp2
        refine bodyPost_ret (v:=.agg #[.int .i64 1,.string (s.extract i (i+1)),.slice none 0 0]) (by simp [results,Tryz.results137,go_sem,b0,b1,b2,hz3,hnb,hnb']) rfl ?_
        rw [HX1.out]
        exact s_some (p:=charsP [c]) (d:=0) (owN_leaf _ _ _ _ _) hP5 HK.out hT05 hbl (by omega)
       ·clear hv3
        go_enter Tryz.func137,Tryz.ntmps137
        go_wp2_with (first
         |(go_at_call 120;((with_reducible refine(next_no b s hs i false 40 40 ch40 _ hP0 n40).mono ?_);rintro e wa ⟨rfl,hPa,hTa⟩;clear hP0))
         |(go_at_call 120;((with_reducible refine(next_no b s hs i false 91 91 ch91 _ hPa n91).mono ?_);rintro e wb ⟨rfl,hPb,hTb⟩;clear hPa))
         |(go_at_call 120;((with_reducible refine(next_no b s hs i false 46 46 ch46 _ hPb n46).mono ?_);rintro e w3 ⟨rfl,hP3,hTc⟩;have hT03:RT b _ w3:=(hTa.trans hTb).trans hTc;obtain⟨⟨b0,b1,b2⟩,⟨f0,f1,f2⟩,hz3⟩:=box3t hT03 hbl;obtain⟨⟨p0,p1,p2⟩,g1,g2⟩:=hP3.cells;clear hPb)))
        go_quiet ((first|(go_at_call 164;exact Calls.quiet_of_same (s3Let_q _ _ H1.out _))|(go_at_call 165;exact Calls.quiet_of_same (s3Dig_q _ _ H2.out _))))
        go_wp2
        have hP4:PS ((w3.drewN nq).setCell ⟨b,1,none⟩ (.int .i64 ((i:Int)+1))) b s (i+1) false:=(hP3.drewN nq).set1 (i+1)
        have hT04:RT b (w.alloc (.cells #[.int .i64 0,.string ⟨#[]⟩,.slice none 0 0] 92)) ((w3.drewN nq).setCell ⟨b,1,none⟩ (.int .i64 ((i:Int)+1))):=(hT03.trans (turns_drewN _ _)).trans (turns_set _ _ _ _ rfl)
        generalize (w3.drewN nq).setCell ⟨b,1,none⟩ (.int .i64 ((i:Int)+1))=W0 at hP4 hT04 ⊢
        obtain⟨⟨k0,k1',k2⟩,_,_⟩:=hP4.cells
        have k1:W0.cell? ⟨b,1,none⟩=some (.int .i64 ((i:Int)+1)):=k1'
        clear k1' b0 b1 b2 f0 f1 f2 hz3 p0 p1 p2 g1 g2 hP3 hT03 hTa hTb hTc
        have q0:(0:Int)≤(i:Int):=by omega
        have q3:(i:Int)≤(i:Int)+1:=by omega
        have q4:((i:Int)+1).toNat=i+1:=by omega
        have q1:IntKind.i64.wrap ((i:Int)+1-1)=(i:Int):=by rw [show(i:Int)+1-1=(i:Int)by omega];exact IntWalk.i64_in _ (by omega)
        go_still_tail 13,(by kernel_rfl)
        repeat still_step
        change wpList _ _ _ _ _ W0.drew
        have hP5:PS W0.drew b s (i+1) false:=hP4
        have hT05:RT b (w.alloc (.cells #[.int .i64 0,.string ⟨#[]⟩,.slice none 0 0] 92)) W0.drew:=hT04.trans (turns_drewN W0 1)
        generalize W0.drew=W1 at hP5 hT05 ⊢
        obtain⟨⟨b0,b1,b2⟩,⟨f0,f1,f2⟩,hz3⟩:=box3t hT05 hbl
        go_wp2
        refine bodyPost_ret (v:=.agg #[.int .i64 1,.string (s.extract i (i+1)),.slice none 0 0]) (by simp [results,Tryz.results137,go_sem,b0,b1,b2,hz3,hnb,hnb']) rfl ?_
        rw [HX1.out]
        exact s_some (p:=charsP [c]) (d:=0) (owN_leaf _ _ _ _ _) hP5 HK.out hT05 hbl (by omega)
      ·clear hv3
       go_enter Tryz.func137,Tryz.ntmps137
       go_wp2_with (first
        |(go_at_call 120;((with_reducible refine(next_no b s hs i false 40 40 ch40 _ hP0 n40).mono ?_);rintro e wa ⟨rfl,hPa,hTa⟩;clear hP0))
        |(go_at_call 120;((with_reducible refine(next_no b s hs i false 91 91 ch91 _ hPa n91).mono ?_);rintro e wb ⟨rfl,hPb,hTb⟩;clear hPa))
        |(go_at_call 120;((with_reducible refine(next_no b s hs i false 46 46 ch46 _ hPb n46).mono ?_);rintro e w3 ⟨rfl,hP3,hTc⟩;have hT03:RT b _ w3:=(hTa.trans hTb).trans hTc;obtain⟨⟨b0,b1,b2⟩,⟨f0,f1,f2⟩,hz3⟩:=box3t hT03 hbl;obtain⟨⟨p0,p1,p2⟩,g1,g2⟩:=hP3.cells;clear hPb)))
       go_quiet ((first|(go_at_call 164;exact Calls.quiet_of_same (s3Let_q _ _ H1.out _))|(go_at_call 165;exact Calls.quiet_of_same (s3Dig_q _ _ H2.out _))))
       go_wp2
       have hP4:PS ((w3.drewN nq).setCell ⟨b,1,none⟩ (.int .i64 ((i:Int)+1))) b s (i+1) false:=(hP3.drewN nq).set1 (i+1)
       have hT04:RT b (w.alloc (.cells #[.int .i64 0,.string ⟨#[]⟩,.slice none 0 0] 92)) ((w3.drewN nq).setCell ⟨b,1,none⟩ (.int .i64 ((i:Int)+1))):=(hT03.trans (turns_drewN _ _)).trans (turns_set _ _ _ _ rfl)
       generalize (w3.drewN nq).setCell ⟨b,1,none⟩ (.int .i64 ((i:Int)+1))=W0 at hP4 hT04 ⊢
       obtain⟨⟨k0,k1',k2⟩,_,_⟩:=hP4.cells
       have k1:W0.cell? ⟨b,1,none⟩=some (.int .i64 ((i:Int)+1)):=k1'
       clear k1' b0 b1 b2 f0 f1 f2 hz3 p0 p1 p2 g1 g2 hP3 hT03 hTa hTb hTc
       have q0:(0:Int)≤(i:Int):=by omega
       have q3:(i:Int)≤(i:Int)+1:=by omega
       have q4:((i:Int)+1).toNat=i+1:=by omega
       have q1:IntKind.i64.wrap ((i:Int)+1-1)=(i:Int):=by rw [show(i:Int)+1-1=(i:Int)by omega];exact IntWalk.i64_in _ (by omega)
       go_still_tail 13,(by kernel_rfl)
       repeat still_step
       change wpList _ _ _ _ _ W0.drew
       have hP5:PS W0.drew b s (i+1) false:=hP4
       have hT05:RT b (w.alloc (.cells #[.int .i64 0,.string ⟨#[]⟩,.slice none 0 0] 92)) W0.drew:=hT04.trans (turns_drewN W0 1)
       generalize W0.drew=W1 at hP5 hT05 ⊢
       obtain⟨⟨b0,b1,b2⟩,⟨f0,f1,f2⟩,hz3⟩:=box3t hT05 hbl
       go_wp2
       refine bodyPost_ret (v:=.agg #[.int .i64 1,.string (s.extract i (i+1)),.slice none 0 0]) (by simp [results,Tryz.results137,go_sem,b0,b1,b2,hz3,hnb,hnb']) rfl ?_
       rw [HX1.out]
       exact s_some (p:=charsP [c]) (d:=0) (owN_leaf _ _ _ _ _) hP5 HK.out hT05 hbl (by omega)
 ·rw [show atomF (n+1) (s.data.toList.drop i)=none by rw [List.drop_eq_nil_of_le (by simp;omega)];rfl]
  exact satom_end _ b s i w hP h30 hlt
end
end Go.Proofs.YtecladbckadijaaGreatDoor
