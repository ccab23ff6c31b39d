/-
  The specification's Names.
-/
import Derived.Test.YtllbachngocmnaaGreatDoorP24
import Derived.Test.YtllbachngocmnaaGreatDoorP19
import Derived.Test.YtllbachngocmnaaGreatDoorP23
namespace Go.Proofs.YtllbachngocmnaaGreatDoor
open Go.RowKit
namespace Ck
open Nd Ty

theorem subs_len (t:Data):(subs t).length=cnt t:=by
 induction t using tree_ind with
 | h ks lab ih =>
  have:∀ ts:List Data,(∀ t∈ts,(subs t).length=cnt t)→(subsL ts).length=cnts ts:=by
   intro ts
   induction ts with
   | nil=>intro _;simp[subsL,cnts]
   | cons a ts ih2 =>
    intro h;have h1:=h a (by simp);have h2:=ih2 fun t ht=>h t (by simp[ht]);simp only[subsL,cnts,List.length_append];omega
  have:=this ks ih
  simp only[subs,cnt,List.length_cons];omega
 | h1 t ht =>
  cases t <;> simp[subs,cnt];exact absurd rfl (ht _ _)
theorem subsL_len (ts:List Data):(subsL ts).length=cnts ts:=by
 induction ts with
 | nil=>simp[subsL,cnts]
 | cons t ts ih=>simp only[subsL,cnts,List.length_append,subs_len,ih]
theorem varsIn_len (ts:List Data):(varsIn ts).length≤ts.length:=List.length_filterMap_le ..
theorem cellsIn_len (ts:List Data):(cellsIn ts).length≤ts.length:=List.length_filterMap_le ..

def NmOk (t:Data):Prop:=∀ (w:World) (S:Nat→Prop) (a b c u:Value) (vs cs:List (List UInt8)) (gv kv gc kc:Nat),NodeIs w t S [a,b,c,u]→(∀ k,S k→k<w.heap.size)→TxtRow w gv kv vs→TxtRow w gc kc cs→vs.length+cnt t≤2500000→cs.length+cnt t≤2500000 →
 Calls Tryz.prog 40 #[.agg #[a,b,c,u],.slice (some ⟨gv,0,none⟩) vs.length kv,.slice (some ⟨gc,0,none⟩) cs.length kc] w fun e w'=>∃ gv' kv' gc' kc',e=.returned (.tuple #[.slice (some ⟨gv',0,none⟩) ((varsIn (subs t)).foldl putS vs).length kv',.slice (some ⟨gc',0,none⟩) ((cellsIn (subs t)).foldl putS cs).length kc']) ∧
  TxtRow w' gv' kv' ((varsIn (subs t)).foldl putS vs)∧TxtRow w' gc' kc' ((cellsIn (subs t)).foldl putS cs)∧Below w.heap.size w w'

def varsT (op:Int)(s:List UInt8):List (List UInt8):=if op=4 then [s] else []
def cellsT (op:Int)(s:List UInt8):List (List UInt8):=if op=5∨op=34 then [s] else []
theorem varsIn_one (t:Data):varsIn [t]=varsT (opOf t) (txtOf t):=by unfold varsIn varsT varN;by_cases h:opOf t=4 <;> simp[h]
theorem cellsIn_one (t:Data):cellsIn [t]=cellsT (opOf t) (txtOf t):=by unfold cellsIn cellsT cellN;by_cases h:opOf t=5∨opOf t=34 <;> simp[h]

set_option maxHeartbeats 2000000 in
set_option maxRecDepth 100000 in
theorem nm_of {t:Data}(ih:∀ k∈kidsOf t,NmOk k):NmOk t:=by
 intro w S a b c u vs cs gv kv gc kc ht hS hv hc hl hl2
 obtain⟨op,n,s,ao,cap,xs,hnd,rfl,rfl,rfl,rfl,hro,hrg,hrn⟩:=node_form ht
 have hop:opOf t=op:=by rw[hnd];rfl
 have htx:txtOf t=s:=by rw[hnd];rfl
 have hck:=cnt_kids t;have hkl:=cnts_len (kidsOf t)
 obtain⟨ks,hks⟩:∃ ks,ks=kidsOf t:=⟨_,rfl⟩
 rw[← hks] at ih hro hrg hrn hck hkl ⊢
 have hsub:subs t=t::subsL ks:=by rw[hks];exact subs_kids t
 have hV:(varsIn (subs t)).foldl putS vs=(varsIn (subsL ks)).foldl putS ((varsT op s).foldl putS vs):=by
  rw[hsub,← List.singleton_append,varsIn_append,varsIn_one,hop,htx,List.foldl_append]
 have hC:(cellsIn (subs t)).foldl putS cs=(cellsIn (subsL ks)).foldl putS ((cellsT op s).foldl putS cs):=by
  rw[hsub,← List.singleton_append,cellsIn_append,cellsIn_one,hop,htx,List.foldl_append]
 rw[hV,hC]
 obtain⟨o1,ho1⟩:∃ o1,o1=Obj.cells #[.int .i64 op,.int .i64 n,.string ⟨s.toArray⟩,.slice ao ks.length cap] 51:=⟨_,rfl⟩
 have hb1:Below w.heap.size w (w.alloc o1):=(Below.refl _ w).alloc (Nat.le_refl _) _;have hvA:=hv.later hb1;have hcA:=hc.later hb1;have hlI:(ks.length:Int)≤2500000:=by omega
 -- the three ways of the switch
 have hway:∃ (f:Bool × Bool),((f=(true,false)∧op=4)∨(f=(false,true)∧(op=5∨op=34))∨(f=(false,false)∧op≠4∧op≠5∧op≠34)):=by
  by_cases h4:op=4
  ·exact⟨_,.inl ⟨rfl,h4⟩⟩
  ·by_cases h5:op=5∨op=34
   ·exact⟨_,.inr (.inl ⟨rfl,h5⟩)⟩
   ·simp only[not_or] at h5
    exact⟨_,.inr (.inr ⟨rfl,h4,h5.1,h5.2⟩)⟩
 have cv:=sPut (s:=s) hvA (by omega);have cc:=sPut (s:=s) hcA (by omega)
 -- what is so behind the switch
 obtain⟨V0,hV0⟩:∃ V0,V0=(varsT op s).foldl putS vs:=⟨_,rfl⟩
 obtain⟨C0,hC0⟩:∃ C0,C0=(cellsT op s).foldl putS cs:=⟨_,rfl⟩
 have hV0l:V0.length≤vs.length+1:=by
  have:=foldl_len (varsT op s) vs
  have:(varsT op s).length≤1:=by unfold varsT;split <;> simp
  rw[hV0];omega
 have hC0l:C0.length≤cs.length+1:=by
  have:=foldl_len (cellsT op s) cs
  have:(cellsT op s).length≤1:=by unfold cellsT;split <;> simp
  rw[hC0];omega
 rw[← hV0,← hC0]
 have HV0:Hid _:=hV0;have HC0:Hid _:=hC0
 obtain⟨VR,hVR⟩:∃ VR,VR=(varsIn (subsL ks)).foldl putS V0:=⟨_,rfl⟩
 obtain⟨CR,hCR⟩:∃ CR,CR=(cellsIn (subsL ks)).foldl putS C0:=⟨_,rfl⟩
 rw[← hVR,← hCR]
 have HR:Hid _:=And.intro hVR hCR;have hcl:vs.length+cnts ks+1≤2500000∧cs.length+cnts ks+1≤2500000:=⟨by omega,by omega⟩;have hkid:∀ w',Below w.heap.size w w'→∀ i t',ks[i]?=some t'→∃ (S1:Nat→Prop) (x0 x1 x2 x3:Value) (g:Nat),ao=some ⟨g,0,none⟩∧w'.cell? ⟨g,i*4,none⟩=some x0∧w'.cell? ⟨g,i*4+1,none⟩=some x1∧w'.cell? ⟨g,i*4+2,none⟩=some x2∧w'.cell? ⟨g,i*4+3,none⟩=some x3∧NodeIs w' t' S1 [x0,x1,x2,x3]∧∀ k,S1 k→k<w'.heap.size:=by
  intro w' hb i t' hi
  obtain⟨S1,x0,x1,x2,x3,y0,y1,y2,y3,hn,hs1⟩:=nodes_at hrn hi
  obtain⟨g,rfl,hg,hcc⟩:=row_cells hro ((List.getElem?_eq_some_iff.1 hi).1)
  have cell:∀ j x,xs[j]?=some x→w'.cell? ⟨g,j,none⟩=some x:=fun j x hx=>(hb.cell (p:=⟨g,j,none⟩) hg).trans (hcc j x hx);have hlt:∀ k,S1 k→k<w.heap.size:=fun k hk=>hS k (hs1 k hk).1
  exact⟨S1,x0,x1,x2,x3,g,rfl,cell _ _ y0,cell _ _ y1,cell _ _ y2,cell _ _ y3,node_frame _ _ _ (fun k hk=>hb.block k (hlt k hk)) hn,fun k hk=>Nat.lt_of_lt_of_le (hlt k hk) hb.size⟩
 have te0:(w.alloc o1).cell? ⟨w.heap.size,3,none⟩=some (.slice ao ks.length cap):=by have h:=heap_new w o1;unfold World.cell?;simp only[h];rw[ho1];rfl
 subst ho1;clear ht hnd hro hrg hrn hV hC hV0 hC0 hVR hCR hck hsub htx hop hv hc hl hl2 hks
 obtain⟨f,⟨-,rfl⟩|⟨-,hop⟩|⟨-,h4,h5,h6⟩⟩:=hway
 ·have eV:V0=putS vs s:=by rw[HV0.out];rfl
  have eC:C0=cs:=by rw[HC0.out];rfl
  have HE:Hid _:=And.intro eV eC;clear eV eC HV0 HC0 cc
  go_enter Tryz.func40,Tryz.ntmps40
  go_wp2_with (go_at_call 70;refine cv.mono ?_;rintro e w1 ⟨ga,ka,rfl,tv,hb2⟩)
  ·obtain⟨gb,kb,hgb⟩:∃ gb kb,gb=gc∧kb=kc:=⟨_,_,rfl,rfl⟩
   obtain⟨rfl,rfl⟩:=hgb
   have tc:=hcA.later hb2;have tb:Below w.heap.size w w1:=hb1.trans (hb2.mono hb1.size);have te:=(hb2.cell (p:=⟨w.heap.size,3,none⟩) (by simp)).trans te0
   rw[← HE.out.1] at tv
   rw[← HE.out.2] at tc
   go_loopw [1,2,8] (fun v1 v2 i wr=>∃ (k ga ka gb kb:Nat) (V C:List (List UInt8)),k≤ks.length∧i=.int .i64 k∧V=(varsIn (subsL (ks.take k))).foldl putS V0∧C=(cellsIn (subsL (ks.take k))).foldl putS C0∧v1=.slice (some ⟨ga,0,none⟩) V.length ka∧v2=.slice (some ⟨gb,0,none⟩) C.length kb∧TxtRow wr ga ka V∧TxtRow wr gb kb C∧Below w.heap.size w wr∧wr.cell? ⟨w.heap.size,3,none⟩=some (.slice ao ks.length cap)) (fun _ _ i _=>ks.length - (intOf i).toNat)
   case atStart=>exact⟨0,ga,ka,gb,kb,V0,C0,Nat.zero_le _,rfl,by simp[subsL,varsIn],by simp[subsL,cellsIn],by rw[HE.out.1],by rw[HE.out.2],tv,tc,tb,te⟩
   case round =>
    clear tv tc tb te
    obtain⟨k,ga,ka,gb,kb,V,C,hk,rfl,hVk,hCk,rfl,rfl,tv,tc,tb,te⟩:=hrel
    by_cases hkk:k<ks.length
    ·have hki:ks[k]?=some ks[k]:=List.getElem?_eq_getElem hkk
     obtain⟨S1,x0,x1,x2,x3,g,rfl,c0,c1,c2,c3,hn,hlt⟩:=hkid wr tb k _ hki
     have hsz:cnts (ks.take (k+1))=cnts (ks.take k)+cnt ks[k]:=cnts_take ks k _ hki;have hle:=cnts_le ks (k+1);have hVl:V.length≤V0.length+cnts (ks.take k):=by rw[hVk];have:=foldl_len (varsIn (subsL (ks.take k))) V0;have:=varsIn_len (subsL (ks.take k));rw[subsL_len] at this;omega
     have hCl:C.length≤C0.length+cnts (ks.take k):=by rw[hCk];have:=foldl_len (cellsIn (subsL (ks.take k))) C0;have:=cellsIn_len (subsL (ks.take k));rw[subsL_len] at this;omega
     have call:=ih ks[k] (List.getElem_mem hkk) wr S1 x0 x1 x2 x3 V C ga ka gb kb hn hlt tv tc (by omega) (by omega);have hst:subsL (ks.take (k+1))=subsL (ks.take k)++subs ks[k]:=by rw[List.take_add_one,hki,subsL_append];simp[subsL]
     have HV:Hid ((varsIn (subs ks[k])).foldl putS V=(varsIn (subsL (ks.take (k+1)))).foldl putS V0∧(cellsIn (subs ks[k])).foldl putS C=(cellsIn (subsL (ks.take (k+1)))).foldl putS C0):=by
      constructor
      ·rw[hst,varsIn_append,List.foldl_append,hVk]
      ·rw[hst,cellsIn_append,List.foldl_append,hCk]
     obtain⟨op',n',s',ao',cap',xs',-,rfl,rfl,rfl,rfl,-,-,-⟩:=node_form hn
     generalize (varsIn (subs ks[k])).foldl putS V=V1 at *;generalize (cellsIn (subs ks[k])).foldl putS C=C1 at *;generalize (kidsOf ks[k]).length=L' at *;have bk:(k:Int)<ks.length:=by omega
     have hwl:w.heap.size<wr.heap.size:=World.block_lt_of_cell? _ _ te;clear hn hlt hki hst hsz hle hVl hCl hVk hCk hkid ih HR
     go_wp2_with (go_at_call 40;refine call.mono ?_;rintro e w2 ⟨gv2,kv2,gc2,kc2,rfl,tv2,tc2,tb2⟩)
     go_roundw
     case rel=>exact⟨k+1,gv2,kv2,gc2,kc2,V1,C1,hkk,by go_num,HV.out.1,HV.out.2,rfl,rfl,tv2,tc2,tb.trans (tb2.mono tb.size),(tb2.cell (p:=⟨w.heap.size,3,none⟩) hwl).trans te⟩
     case measure=>simp[intOf];omega
    ·obtain rfl:k=ks.length:=by omega
     rw[List.take_length] at hVk hCk
     have HF:Hid (VR=V∧CR=C):=⟨HR.out.1.trans hVk.symm,HR.out.2.trans hCk.symm⟩;clear hVk hCk hkid ih HR;go_wp2_with fail;go_ret2
     obtain⟨rfl,rfl⟩:=HF.out
     exact⟨ga,ka,gb,kb,rfl,tv,tc,tb⟩
 ·have eV:V0=vs:=by rw[HV0.out];unfold varsT;rw[if_neg (by omega)];rfl
  have eC:C0=putS cs s:=by rw[HC0.out];unfold cellsT;rw[if_pos hop];rfl
  have HE:Hid _:=And.intro eV eC;clear eV eC HV0 HC0 cv;rcases hop with rfl|rfl
  all_goals
   go_enter Tryz.func40,Tryz.ntmps40
   go_wp2_with (go_at_call 70;refine cc.mono ?_;rintro e w1 ⟨gb,kb,rfl,tc,hb2⟩)
   obtain⟨ga,ka,hgb⟩:∃ ga ka,ga=gv∧ka=kv:=⟨_,_,rfl,rfl⟩
   obtain⟨rfl,rfl⟩:=hgb
   have tv:=hvA.later hb2;have tb:Below w.heap.size w w1:=hb1.trans (hb2.mono hb1.size);have te:=(hb2.cell (p:=⟨w.heap.size,3,none⟩) (by simp)).trans te0
   rw[← HE.out.1] at tv
   rw[← HE.out.2] at tc
   go_loopw [1,2,8] (fun v1 v2 i wr=>∃ (k ga ka gb kb:Nat) (V C:List (List UInt8)),k≤ks.length∧i=.int .i64 k∧V=(varsIn (subsL (ks.take k))).foldl putS V0∧C=(cellsIn (subsL (ks.take k))).foldl putS C0∧v1=.slice (some ⟨ga,0,none⟩) V.length ka∧v2=.slice (some ⟨gb,0,none⟩) C.length kb∧TxtRow wr ga ka V∧TxtRow wr gb kb C∧Below w.heap.size w wr∧wr.cell? ⟨w.heap.size,3,none⟩=some (.slice ao ks.length cap)) (fun _ _ i _=>ks.length - (intOf i).toNat)
   case atStart=>exact⟨0,ga,ka,gb,kb,V0,C0,Nat.zero_le _,rfl,by simp[subsL,varsIn],by simp[subsL,cellsIn],by rw[HE.out.1],by rw[HE.out.2],tv,tc,tb,te⟩
   case round =>
    clear tv tc tb te
    obtain⟨k,ga,ka,gb,kb,V,C,hk,rfl,hVk,hCk,rfl,rfl,tv,tc,tb,te⟩:=hrel
    by_cases hkk:k<ks.length
    ·have hki:ks[k]?=some ks[k]:=List.getElem?_eq_getElem hkk
     obtain⟨S1,x0,x1,x2,x3,g,rfl,c0,c1,c2,c3,hn,hlt⟩:=hkid wr tb k _ hki
     have hsz:cnts (ks.take (k+1))=cnts (ks.take k)+cnt ks[k]:=cnts_take ks k _ hki;have hle:=cnts_le ks (k+1);have hVl:V.length≤V0.length+cnts (ks.take k):=by rw[hVk];have:=foldl_len (varsIn (subsL (ks.take k))) V0;have:=varsIn_len (subsL (ks.take k));rw[subsL_len] at this;omega
     have hCl:C.length≤C0.length+cnts (ks.take k):=by rw[hCk];have:=foldl_len (cellsIn (subsL (ks.take k))) C0;have:=cellsIn_len (subsL (ks.take k));rw[subsL_len] at this;omega
     have call:=ih ks[k] (List.getElem_mem hkk) wr S1 x0 x1 x2 x3 V C ga ka gb kb hn hlt tv tc (by omega) (by omega);have hst:subsL (ks.take (k+1))=subsL (ks.take k)++subs ks[k]:=by rw[List.take_add_one,hki,subsL_append];simp[subsL]
     have HV:Hid ((varsIn (subs ks[k])).foldl putS V=(varsIn (subsL (ks.take (k+1)))).foldl putS V0∧(cellsIn (subs ks[k])).foldl putS C=(cellsIn (subsL (ks.take (k+1)))).foldl putS C0):=by
      constructor
      ·rw[hst,varsIn_append,List.foldl_append,hVk]
      ·rw[hst,cellsIn_append,List.foldl_append,hCk]
     obtain⟨op',n',s',ao',cap',xs',-,rfl,rfl,rfl,rfl,-,-,-⟩:=node_form hn
     generalize (varsIn (subs ks[k])).foldl putS V=V1 at *;generalize (cellsIn (subs ks[k])).foldl putS C=C1 at *;generalize (kidsOf ks[k]).length=L' at *;have bk:(k:Int)<ks.length:=by omega
     have hwl:w.heap.size<wr.heap.size:=World.block_lt_of_cell? _ _ te;clear hn hlt hki hst hsz hle hVl hCl hVk hCk hkid ih HR
     go_wp2_with (go_at_call 40;refine call.mono ?_;rintro e w2 ⟨gv2,kv2,gc2,kc2,rfl,tv2,tc2,tb2⟩)
     go_roundw
     case rel=>exact⟨k+1,gv2,kv2,gc2,kc2,V1,C1,hkk,by go_num,HV.out.1,HV.out.2,rfl,rfl,tv2,tc2,tb.trans (tb2.mono tb.size),(tb2.cell (p:=⟨w.heap.size,3,none⟩) hwl).trans te⟩
     case measure=>simp[intOf];omega
    ·obtain rfl:k=ks.length:=by omega
     rw[List.take_length] at hVk hCk
     have HF:Hid (VR=V∧CR=C):=⟨HR.out.1.trans hVk.symm,HR.out.2.trans hCk.symm⟩;clear hVk hCk hkid ih HR;go_wp2_with fail;go_ret2
     obtain⟨rfl,rfl⟩:=HF.out
     exact⟨ga,ka,gb,kb,rfl,tv,tc,tb⟩
 ·have eV:V0=vs:=by rw[HV0.out];unfold varsT;rw[if_neg h4];rfl
  have eC:C0=cs:=by rw[HC0.out];unfold cellsT;rw[if_neg (by omega)];rfl
  have HE:Hid _:=And.intro eV eC;have e4:(op==4)=false:=by simp[h4]
  have e5:(op==5)=false:=by simp[h5]
  have e6:(op==34)=false:=by simp[h6]
  clear eV eC HV0 HC0 cv cc h4 h5 h6
  go_enter Tryz.func40,Tryz.ntmps40
  go_wp2_with fail
  ·obtain⟨ga,ka,gb,kb,hgb⟩:∃ ga ka gb kb,ga=gv∧ka=kv∧gb=gc∧kb=kc:=⟨_,_,_,_,rfl,rfl,rfl,rfl⟩
   obtain⟨rfl,rfl,rfl,rfl⟩:=hgb
   have tb:=hb1;have te:=te0;have tv:=hvA;have tc:=hcA
   rw[← HE.out.1] at tv
   rw[← HE.out.2] at tc
   go_loopw [1,2,8] (fun v1 v2 i wr=>∃ (k ga ka gb kb:Nat) (V C:List (List UInt8)),k≤ks.length∧i=.int .i64 k∧V=(varsIn (subsL (ks.take k))).foldl putS V0∧C=(cellsIn (subsL (ks.take k))).foldl putS C0∧v1=.slice (some ⟨ga,0,none⟩) V.length ka∧v2=.slice (some ⟨gb,0,none⟩) C.length kb∧TxtRow wr ga ka V∧TxtRow wr gb kb C∧Below w.heap.size w wr∧wr.cell? ⟨w.heap.size,3,none⟩=some (.slice ao ks.length cap)) (fun _ _ i _=>ks.length - (intOf i).toNat)
   case atStart=>exact⟨0,ga,ka,gb,kb,V0,C0,Nat.zero_le _,rfl,by simp[subsL,varsIn],by simp[subsL,cellsIn],by rw[HE.out.1],by rw[HE.out.2],tv,tc,tb,te⟩
   case round =>
    clear tv tc tb te
    obtain⟨k,ga,ka,gb,kb,V,C,hk,rfl,hVk,hCk,rfl,rfl,tv,tc,tb,te⟩:=hrel
    by_cases hkk:k<ks.length
    ·have hki:ks[k]?=some ks[k]:=List.getElem?_eq_getElem hkk
     obtain⟨S1,x0,x1,x2,x3,g,rfl,c0,c1,c2,c3,hn,hlt⟩:=hkid wr tb k _ hki
     have hsz:cnts (ks.take (k+1))=cnts (ks.take k)+cnt ks[k]:=cnts_take ks k _ hki;have hle:=cnts_le ks (k+1);have hVl:V.length≤V0.length+cnts (ks.take k):=by rw[hVk];have:=foldl_len (varsIn (subsL (ks.take k))) V0;have:=varsIn_len (subsL (ks.take k));rw[subsL_len] at this;omega
     have hCl:C.length≤C0.length+cnts (ks.take k):=by rw[hCk];have:=foldl_len (cellsIn (subsL (ks.take k))) C0;have:=cellsIn_len (subsL (ks.take k));rw[subsL_len] at this;omega
     have call:=ih ks[k] (List.getElem_mem hkk) wr S1 x0 x1 x2 x3 V C ga ka gb kb hn hlt tv tc (by omega) (by omega);have hst:subsL (ks.take (k+1))=subsL (ks.take k)++subs ks[k]:=by rw[List.take_add_one,hki,subsL_append];simp[subsL]
     have HV:Hid ((varsIn (subs ks[k])).foldl putS V=(varsIn (subsL (ks.take (k+1)))).foldl putS V0∧(cellsIn (subs ks[k])).foldl putS C=(cellsIn (subsL (ks.take (k+1)))).foldl putS C0):=by
      constructor
      ·rw[hst,varsIn_append,List.foldl_append,hVk]
      ·rw[hst,cellsIn_append,List.foldl_append,hCk]
     obtain⟨op',n',s',ao',cap',xs',-,rfl,rfl,rfl,rfl,-,-,-⟩:=node_form hn
     generalize (varsIn (subs ks[k])).foldl putS V=V1 at *;generalize (cellsIn (subs ks[k])).foldl putS C=C1 at *;generalize (kidsOf ks[k]).length=L' at *;have bk:(k:Int)<ks.length:=by omega
     have hwl:w.heap.size<wr.heap.size:=World.block_lt_of_cell? _ _ te;clear hn hlt hki hst hsz hle hVl hCl hVk hCk hkid ih HR
     go_wp2_with (go_at_call 40;refine call.mono ?_;rintro e w2 ⟨gv2,kv2,gc2,kc2,rfl,tv2,tc2,tb2⟩)
     go_roundw
     case rel=>exact⟨k+1,gv2,kv2,gc2,kc2,V1,C1,hkk,by go_num,HV.out.1,HV.out.2,rfl,rfl,tv2,tc2,tb.trans (tb2.mono tb.size),(tb2.cell (p:=⟨w.heap.size,3,none⟩) hwl).trans te⟩
     case measure=>simp[intOf];omega
    ·obtain rfl:k=ks.length:=by omega
     rw[List.take_length] at hVk hCk
     have HF:Hid (VR=V∧CR=C):=⟨HR.out.1.trans hVk.symm,HR.out.2.trans hCk.symm⟩;clear hVk hCk hkid ih HR;go_wp2_with fail;go_ret2
     obtain⟨rfl,rfl⟩:=HF.out
     exact⟨ga,ka,gb,kb,rfl,tv,tc,tb⟩

theorem sNm (t:Data):NmOk t:=by
 induction t using tree_ind with
 | h ks lab ih=>exact nm_of ih
 | h1 t ht =>
  intro w S a b c u vs cs gv kv gc kc h
  obtain⟨op,n,s,ks,rfl⟩:=node_node h
  exact absurd rfl (ht _ _)

end Ck
namespace Ck
open Nd Ty

def dfs:List Ru→List Data
 | []=>[]
 | r::rs=>subs r.2.1++(subs r.2.2++dfs rs)
theorem dfs_append:∀ (xs ys:List Ru),dfs (xs++ys)=dfs xs++dfs ys
 | [],ys=>rfl
 | a::xs,ys=>by simp only[List.cons_append,dfs,dfs_append xs ys,List.append_assoc]
theorem dfs_len:∀ rs:List Ru,(dfs rs).length≤2*sizR rs
 | []=>by simp[dfs]
 | r::rs=>by
  have:=dfs_len rs
  have:=cnt_siz r.2.1
  have:=cnt_siz r.2.2
  simp only[dfs,sizR,List.length_append,subs_len];omega
theorem mem_dfs {x:Data}:∀ {rs:List Ru},x∈dfs rs↔SubR rs x
 | []=>by simp[dfs,SubR]
 | r::rs=>by
  have ih:=mem_dfs (x:=x) (rs:=rs);simp only[dfs,List.mem_append,ih,SubR,List.mem_cons]
  constructor
  ·rintro (h|h|⟨r',h1,h2⟩)
   ·exact⟨r,.inl rfl,.inl h⟩
   ·exact⟨r,.inl rfl,.inr h⟩
   ·exact⟨r',.inr h1,h2⟩
  ·rintro⟨r',rfl|h1,h2⟩
   ·exact h2.imp id .inl
   ·exact .inr (.inr ⟨r',h1,h2⟩)
theorem txt_none (w:World):TxtRow (w.alloc (.cells #[] 9)) w.heap.size 0 [] :=
 ⟨rfl,.inr ⟨_,0,_,rfl,Nat.zero_le _,heap_new _ _,Nat.le_refl _,by unfold maxLen;omega,rfl,rfl⟩⟩

set_option maxHeartbeats 2000000 in
set_option maxRecDepth 100000 in
theorem sNames {rs:List Ru}{w:World}{S:Nat→Prop}{v:Value}{xs:List Value}{B:Nat}(hsz:sizR rs≤1048576)(hlt:∀ k,S k→k<w.heap.size)(ho:w.ownsRow B 53 9 v rs.length xs)(hR:RulesIs w S rs xs):
  Calls Tryz.prog 15 #[v] w fun e w'=>∃ gv kv gc kc,e=.returned (.tuple #[.slice (some ⟨gv,0,none⟩) (ascS (varsIn (dfs rs))).length kv,.slice (some ⟨gc,0,none⟩) (ascS (cellsIn (dfs rs))).length kc])∧TxtRow w' gv kv (ascS (varsIn (dfs rs)))∧TxtRow w' gc kc (ascS (cellsIn (dfs rs)))∧Below w.heap.size w w':=by
 obtain⟨ao,cap,rfl⟩:=owns_slice ho
 have bn:(rs.length:Int)≤1048576:=by have:=sizR_len rs;omega
 obtain⟨VR,hVR⟩:∃ VR,VR=ascS (varsIn (dfs rs)):=⟨_,rfl⟩
 obtain⟨CR,hCR⟩:∃ CR,CR=ascS (cellsIn (dfs rs)):=⟨_,rfl⟩
 rw[← hVR,← hCR]
 have HR:Hid _:=And.intro hVR hCR;clear hVR hCR
 obtain⟨o1,ho1⟩:∃ o1,o1=Obj.cells #[] 9:=⟨_,rfl⟩
 have tb0:Below w.heap.size w ((w.alloc o1).alloc o1):=((Below.refl _ w).alloc (Nat.le_refl _) _).alloc (by simp) _;have tv0:TxtRow ((w.alloc o1).alloc o1) w.heap.size 0 []:=by rw[ho1];exact (txt_none w).later ((Below.refl _ _).alloc (Nat.le_refl _) _)
 have tc0:TxtRow ((w.alloc o1).alloc o1) (w.heap.size+1) 0 []:=by rw[ho1];have:=txt_none (w.alloc (.cells #[] 9));rwa [World.size_alloc] at this
 subst ho1
 go_enter Tryz.func15,Tryz.ntmps15
 go_wp2_with fail
 go_loopw [4,5,6] (fun v1 v2 i wr=>∃ (k ga ka gb kb:Nat) (V C:List (List UInt8)),k≤rs.length∧i=.int .i64 k∧V=ascS (varsIn (dfs (rs.take k)))∧C=ascS (cellsIn (dfs (rs.take k)))∧v1=.slice (some ⟨ga,0,none⟩) V.length ka∧v2=.slice (some ⟨gb,0,none⟩) C.length kb∧TxtRow wr ga ka V∧TxtRow wr gb kb C∧Below w.heap.size w wr) (fun _ _ i _=>rs.length - (intOf i).toNat)
 case atStart=>exact⟨0,w.heap.size,0,w.heap.size+1,0,[],[],Nat.zero_le _,rfl,by simp[dfs,varsIn,ascS],by simp[dfs,cellsIn,ascS],rfl,rfl,tv0,tc0,tb0⟩
 case round =>
  clear tv0 tc0 tb0
  obtain⟨k,ga,ka,gb,kb,V,C,hk,rfl,hVk,hCk,rfl,rfl,tv,tc,tb⟩:=hrel
  by_cases hkl:k<rs.length
  ·have hki:rs[k]?=some rs[k]:=List.getElem?_eq_getElem hkl
   obtain⟨p0,p1,p2,p3,b0,b1,b2,b3,-,e1,e2,e3,e4,e5,e6,e7,e8,hp,hbd⟩:=rules_at hR hki
   obtain⟨g,rfl,hg,hc⟩:=row_cells ho hkl
   have cc:∀ w',Below w.heap.size w w'→∀ j x,xs[j]?=some x→w'.cell? ⟨g,j,none⟩=some x:=fun w' hb j x hx=>(hb.cell (p:=⟨g,j,none⟩) hg).trans (hc j x hx);have c1:=cc _ tb _ _ e1;have c2:=cc _ tb _ _ e2;have c3:=cc _ tb _ _ e3;have c4:=cc _ tb _ _ e4;have d5:=fun w' hb=>cc w' hb _ _ e5;have d6:=fun w' hb=>cc w' hb _ _ e6;have d7:=fun w' hb=>cc w' hb _ _ e7;have d8:=fun w' hb=>cc w' hb _ _ e8;have hszr:=sizR_mem (List.getElem_mem hkl);have hst:=sizR_take rs k _ hki;have hle:sizR (rs.take (k+1))≤sizR rs:=by have:=sizR_append (rs.take (k+1)) (rs.drop (k+1));rw[List.take_append_drop] at this;omega
   have hq1:=cnt_siz rs[k].2.1;have hq2:=cnt_siz rs[k].2.2;have hdl:=dfs_len (rs.take k);have hVl:V.length≤(dfs (rs.take k)).length:=by rw[hVk];have:=foldl_len (varsIn (dfs (rs.take k))) [];have:=varsIn_len (dfs (rs.take k));unfold ascS;simp at *;omega
   have hCl:C.length≤(dfs (rs.take k)).length:=by rw[hCk];have:=foldl_len (cellsIn (dfs (rs.take k))) [];have:=cellsIn_len (dfs (rs.take k));unfold ascS;simp at *;omega
   have fr:∀ w',Below w.heap.size w w'→NodeIs w' rs[k].2.1 S [p0,p1,p2,p3]∧NodeIs w' rs[k].2.2 S [b0,b1,b2,b3]∧∀ j,S j→j<w'.heap.size:=fun w' hb=>⟨node_frame _ _ _ (fun j hj=>hb.block j (hlt j hj)) hp,node_frame _ _ _ (fun j hj=>hb.block j (hlt j hj)) hbd,fun j hj=>Nat.lt_of_lt_of_le (hlt j hj) hb.size⟩;have call1:=sNm rs[k].2.1 wr S p0 p1 p2 p3 V C ga ka gb kb (fr wr tb).1 (fr wr tb).2.2 tv tc (by omega) (by omega);have hl1:=foldl_len (varsIn (subs rs[k].2.1)) V;have hl2:=foldl_len (cellsIn (subs rs[k].2.1)) C;have hl3:=varsIn_len (subs rs[k].2.1);have hl4:=cellsIn_len (subs rs[k].2.1)
   rw[subs_len] at hl3 hl4
   have call2:=fun (w':World) (hb:Below w.heap.size w w') gv kv gc kc (h1:TxtRow w' gv kv ((varsIn (subs rs[k].2.1)).foldl putS V)) (h2:TxtRow w' gc kc ((cellsIn (subs rs[k].2.1)).foldl putS C))=>sNm rs[k].2.2 w' S b0 b1 b2 b3 _ _ gv kv gc kc (fr w' hb).2.1 (fr w' hb).2.2 h1 h2 (by omega) (by omega);have hdf:dfs (rs.take (k+1))=dfs (rs.take k)++(subs rs[k].2.1++subs rs[k].2.2):=by rw[List.take_add_one,hki,dfs_append];simp[dfs]
   have HV:Hid ((varsIn (subs rs[k].2.2)).foldl putS ((varsIn (subs rs[k].2.1)).foldl putS V)=ascS (varsIn (dfs (rs.take (k+1))))∧(cellsIn (subs rs[k].2.2)).foldl putS ((cellsIn (subs rs[k].2.1)).foldl putS C)=ascS (cellsIn (dfs (rs.take (k+1))))):=by
    constructor
    ·rw[hdf,varsIn_append,varsIn_append,hVk];unfold ascS;rw[List.foldl_append,List.foldl_append]
    ·rw[hdf,cellsIn_append,cellsIn_append,hCk];unfold ascS;rw[List.foldl_append,List.foldl_append]
   obtain⟨pop,pn,ps,pao,pcap,pxs,-,rfl,rfl,rfl,rfl,-,-,-⟩:=node_form hp
   obtain⟨bop,bn',bs,bao,bcap,bxs,-,rfl,rfl,rfl,rfl,-,-,-⟩:=node_form hbd
   generalize (varsIn (subs rs[k].2.2)).foldl putS ((varsIn (subs rs[k].2.1)).foldl putS V)=V2 at *;generalize (cellsIn (subs rs[k].2.2)).foldl putS ((cellsIn (subs rs[k].2.1)).foldl putS C)=C2 at *;generalize (varsIn (subs rs[k].2.1)).foldl putS V=V1 at *;generalize (cellsIn (subs rs[k].2.1)).foldl putS C=C1 at *;generalize (kidsOf rs[k].2.1).length=pL at *;generalize (kidsOf rs[k].2.2).length=bL at *;have bk:(k:Int)<rs.length:=by omega
   clear hR ho hki e1 e2 e3 e4 e5 e6 e7 e8 hp hbd hc cc hlt hszr hsz hst hle hq1 hq2 hdl hVl hCl fr hl1 hl2 hl3 hl4 hdf hVk hCk HR
   go_wp2_with (first
    | (go_at_call 40;refine call1.mono ?_;clear call1;rintro e w2 ⟨gv2,kv2,gc2,kc2,rfl,tv2,tc2,tb2⟩;have tB2:=tb.trans (tb2.mono tb.size);have c5:=d5 _ tB2;have c6:=d6 _ tB2;have c7:=d7 _ tB2;have c8:=d8 _ tB2)
    | (go_at_call 40;refine (call2 _ tB2 _ _ _ _ tv2 tc2).mono ?_;clear call2;rintro e w3 ⟨gv3,kv3,gc3,kc3,rfl,tv3,tc3,tb3⟩))
   go_roundw
   case rel=>exact⟨k+1,gv3,kv3,gc3,kc3,V2,C2,hkl,by go_num,HV.out.1,HV.out.2,rfl,rfl,tv3,tc3,tB2.trans (tb3.mono tB2.size)⟩
   case measure=>simp[intOf];omega
  ·obtain rfl:k=rs.length:=by omega
   rw[List.take_length] at hVk hCk
   have HF:Hid (VR=V∧CR=C):=⟨HR.out.1.trans hVk.symm,HR.out.2.trans hCk.symm⟩;clear hVk hCk HR;go_wp2_with fail;go_ret2
   obtain⟨rfl,rfl⟩:=HF.out
   exact⟨ga,ka,gb,kb,rfl,tv,tc,tb⟩

end Ck
namespace Ty
open Nd

set_option maxRecDepth 100000 in
theorem lEqRule {r:Ru}{w:World}{S1 S2:Nat→Prop}{p0 p1 p2 p3 b0 b1 b2 b3 p0' p1' p2' p3' b0' b1' b2' b3':Value}(hsp:siz r.2.1≤1048576)(hsb:siz r.2.2≤1048576)(hp:NodeIs w r.2.1 S1 [p0,p1,p2,p3])(hb:NodeIs w r.2.2 S1 [b0,b1,b2,b3])(hp':NodeIs w r.2.1 S2 [p0',p1',p2',p3'])(hb':NodeIs w r.2.2 S2 [b0',b1',b2',b3'])
  (l1:∀ k,S1 k→k<w.heap.size) (l2:∀ k,S2 k→k<w.heap.size):
  Calls Tryz.prog 27 #[.agg #[.int .i64 r.1,p0,p1,p2,p3,b0,b1,b2,b3],.agg #[.int .i64 r.1,p0',p1',p2',p3',b0',b1',b2',b3']] w fun e w'=>e=.returned (.bool true)∧Below w.heap.size w w':=by
 have cp:=cnts_siz r.2.1;have cb:=cnts_siz r.2.2;have eP:=fun w' (h:Below w.heap.size w w')=>lEqNode r.2.1 (by omega) w' S1 S2 p0 p1 p2 p3 p0' p1' p2' p3' (node_frame _ _ _ (fun k hk=>h.block k (l1 k hk)) hp) (node_frame _ _ _ (fun k hk=>h.block k (l2 k hk)) hp') (fun k hk=>Nat.lt_of_lt_of_le (l1 k hk) h.size) (fun k hk=>Nat.lt_of_lt_of_le (l2 k hk) h.size);have eB':=fun w' (h:Below w.heap.size w w')=>lEqNode r.2.2 (by omega) w' S1 S2 b0 b1 b2 b3 b0' b1' b2' b3' (node_frame _ _ _ (fun k hk=>h.block k (l1 k hk)) hb) (node_frame _ _ _ (fun k hk=>h.block k (l2 k hk)) hb') (fun k hk=>Nat.lt_of_lt_of_le (l1 k hk) h.size) (fun k hk=>Nat.lt_of_lt_of_le (l2 k hk) h.size)
 obtain⟨pao,pcap,rfl,rfl,rfl,rfl,-,-⟩:=arg_open (arg_of_node _ hsp _ _ hp)
 obtain⟨bao,bcap,rfl,rfl,rfl,rfl,-,-⟩:=arg_open (arg_of_node _ hsb _ _ hb)
 obtain⟨pao',pcap',rfl,rfl,rfl,rfl,-,-⟩:=arg_open (arg_of_node _ hsp _ _ hp')
 obtain⟨bao',bcap',rfl,rfl,rfl,rfl,-,-⟩:=arg_open (arg_of_node _ hsb _ _ hb')
 clear hp hb hp' hb' l1 l2 cp cb hsp hsb;generalize opOf r.2.1=q1 at *;generalize numOf r.2.1=q2 at *;generalize txtOf r.2.1=q3 at *;generalize (kidsOf r.2.1).length=q4 at *;generalize opOf r.2.2=q5 at *;generalize numOf r.2.2=q6 at *;generalize txtOf r.2.2=q7 at *;generalize (kidsOf r.2.2).length=q8 at *;generalize r.1=kd at *
 obtain⟨o1,ho1⟩:∃ o1,o1=Obj.cells #[.int .i64 kd,.int .i64 q1,.int .i64 q2,.string ⟨q3.toArray⟩,.slice pao q4 pcap,.int .i64 q5,.int .i64 q6,.string ⟨q7.toArray⟩,.slice bao q8 bcap] 53:=⟨_,rfl⟩
 obtain⟨o2,ho2⟩:∃ o2,o2=Obj.cells #[.int .i64 kd,.int .i64 q1,.int .i64 q2,.string ⟨q3.toArray⟩,.slice pao' q4 pcap',.int .i64 q5,.int .i64 q6,.string ⟨q7.toArray⟩,.slice bao' q8 bcap'] 53:=⟨_,rfl⟩
 have hb2:Below w.heap.size w ((w.alloc o1).alloc o2):=((Below.refl _ w).alloc (Nat.le_refl _) _).alloc (by simp) _;have v1:Box9 ((w.alloc o1).alloc o2) w.heap.size (.int .i64 kd) (.int .i64 q1) (.int .i64 q2) (.string ⟨q3.toArray⟩) (.slice pao q4 pcap) (.int .i64 q5) (.int .i64 q6) (.string ⟨q7.toArray⟩) (.slice bao q8 bcap):=by
  have:=heap_new w o1
  unfold Box9
  rw[Below.heap_alloc _ _ _ (by simp),this,ho1]
 have v2:Box9 ((w.alloc o1).alloc o2) (w.heap.size+1) (.int .i64 kd) (.int .i64 q1) (.int .i64 q2) (.string ⟨q3.toArray⟩) (.slice pao' q4 pcap') (.int .i64 q5) (.int .i64 q6) (.string ⟨q7.toArray⟩) (.slice bao' q8 bcap'):=by
  have:=heap_new (w.alloc o1) o2
  rw[World.size_alloc] at this
  unfold Box9
  rw[this,ho2]
 have call:=eP _ hb2;subst ho1 ho2
 go_enter Tryz.func27,Tryz.ntmps27
 go_wp2_with (first
  | (go_at_call 63;with_reducible refine (eB' _ hbw).mono ?_;rintro e w4 ⟨rfl,hb4⟩)
  | (go_at_call 63;refine call.mono ?_;rintro e w3 ⟨rfl,hb3⟩;have hbw:=hb2.trans (hb3.mono hb2.size);obtain⟨x0,x1,x2,x3,x4,x5,x6,x7,x8⟩:=(v1.kept (hb3.block _ v1.lt)).cell;obtain⟨y0,y1,y2,y3,y4,y5,y6,y7,y8⟩:=(v2.kept (hb3.block _ v2.lt)).cell))
 go_ret
 exact⟨rfl,hbw.trans (hb4.mono hbw.size)⟩

set_option maxHeartbeats 1000000 in
set_option maxRecDepth 100000 in
theorem lEqRuleS {rs:List Ru}{w:World}{S1 S2:Nat→Prop}{v v':Value}{xs ys:List Value}{B B':Nat}(hsz:sizR rs≤1048576)(ho:w.ownsRow B 53 9 v rs.length xs)(ho':w.ownsRow B' 53 9 v' rs.length ys)(hx:RulesIs w S1 rs xs)(hy:RulesIs w S2 rs ys)
  (l1:∀ k,S1 k→k<w.heap.size) (l2:∀ k,S2 k→k<w.heap.size):
  Calls Tryz.prog 9 #[v,v'] w fun e w'=>e=.returned (.bool true)∧Below w.heap.size w w':=by
 obtain⟨ao,cap,rfl⟩:=owns_slice ho
 obtain⟨ao',cap',rfl⟩:=owns_slice ho'
 have hlen:=sizR_len rs;have hnI:(rs.length:Int)≤1048576:=by omega
 clear hlen
 go_enter Tryz.func9,Tryz.ntmps9
 go_wp2_with fail
 go_loopw [5] (fun i wr=>∃ k:Nat,k≤rs.length∧i=.int .i64 k∧Below w.heap.size w wr) (fun i _=>rs.length - (intOf i).toNat)
 case atStart=>exact⟨0,Nat.zero_le _,rfl,Below.refl _ _⟩
 case round =>
  obtain⟨k,hkn,rfl,hb⟩:=hrel
  by_cases hkl:k<rs.length
  ·have hki:rs[k]?=some rs[k]:=List.getElem?_eq_getElem hkl
   obtain⟨p0,p1,p2,p3,b0,b1,b2,b3,e0,e1,e2,e3,e4,e5,e6,e7,e8,hp,hbd⟩:=rules_at hx hki
   obtain⟨p0',p1',p2',p3',b0',b1',b2',b3',d0,d1,d2,d3,d4,d5,d6,d7,d8,hp',hbd'⟩:=rules_at hy hki
   obtain⟨g,rfl,hg,hc⟩:=row_cells ho hkl
   obtain⟨g',rfl,hg',hc'⟩:=row_cells ho' hkl
   have cc:∀ j x,xs[j]?=some x→wr.cell? ⟨g,j,none⟩=some x:=fun j x hx=>(hb.cell (p:=⟨g,j,none⟩) hg).trans (hc j x hx);have cc':∀ j x,ys[j]?=some x→wr.cell? ⟨g',j,none⟩=some x:=fun j x hx=>(hb.cell (p:=⟨g',j,none⟩) hg').trans (hc' j x hx);have c0:=cc _ _ e0;have c1:=cc _ _ e1;have c2:=cc _ _ e2;have c3:=cc _ _ e3;have c4:=cc _ _ e4;have c5:=cc _ _ e5;have c6:=cc _ _ e6;have c7:=cc _ _ e7;have c8:=cc _ _ e8;have q0:=cc' _ _ d0;have q1:=cc' _ _ d1;have q2:=cc' _ _ d2;have q3:=cc' _ _ d3;have q4:=cc' _ _ d4;have q5:=cc' _ _ d5;have q6:=cc' _ _ d6;have q7:=cc' _ _ d7;have q8:=cc' _ _ d8;have hszr:=sizR_mem (List.getElem_mem hkl);have call:=lEqRule (r:=rs[k]) (w:=wr.drew) (S1:=S1) (S2:=S2) (by omega) (by omega) (node_frame (w':=wr.drew) _ _ _ (fun j hj=>hb.block j (l1 j hj)) hp) (node_frame (w':=wr.drew) _ _ _ (fun j hj=>hb.block j (l1 j hj)) hbd) (node_frame (w':=wr.drew) _ _ _ (fun j hj=>hb.block j (l2 j hj)) hp') (node_frame (w':=wr.drew) _ _ _ (fun j hj=>hb.block j (l2 j hj)) hbd') (fun j hj=>Nat.lt_of_lt_of_le (l1 j hj) hb.size) (fun j hj=>Nat.lt_of_lt_of_le (l2 j hj) hb.size)
   obtain⟨pao,pcap,rfl,rfl,rfl,rfl,-,-⟩:=arg_open (arg_of_node _ (by omega) _ _ hp)
   obtain⟨bao,bcap,rfl,rfl,rfl,rfl,-,-⟩:=arg_open (arg_of_node _ (by omega) _ _ hbd)
   obtain⟨pao',pcap',rfl,rfl,rfl,rfl,-,-⟩:=arg_open (arg_of_node _ (by omega) _ _ hp')
   obtain⟨bao',bcap',rfl,rfl,rfl,rfl,-,-⟩:=arg_open (arg_of_node _ (by omega) _ _ hbd')
   clear e0 e1 e2 e3 e4 e5 e6 e7 e8 d0 d1 d2 d3 d4 d5 d6 d7 d8 hc hc' cc cc' hp hbd hp' hbd' hx hy ho ho' hki hszr hsz l1 l2;have bk:(k:Int)<rs.length:=by omega
   generalize opOf rs[k].2.1=m1 at *;generalize numOf rs[k].2.1=m2 at *;generalize txtOf rs[k].2.1=m3 at *;generalize (kidsOf rs[k].2.1).length=m4 at *;generalize opOf rs[k].2.2=m5 at *;generalize numOf rs[k].2.2=m6 at *;generalize txtOf rs[k].2.2=m7 at *;generalize (kidsOf rs[k].2.2).length=m8 at *;generalize rs[k].1=kd at *;go_wp2_with fail
   go_region_with (first|(go_at_call 27;refine call.mono ?_;rintro e w2 ⟨rfl,hb2⟩))
   all_goals go_wp2_with fail
   all_goals go_roundw
   all_goals try (simp only[intOf];omega)
   all_goals exact⟨k+1,by omega,by go_num,hb.trans (Below.mono (w:=wr) (B:=wr.heap.size) ⟨hb2.os,hb2.tape,hb2.output,hb2.size,hb2.block⟩ hb.size)⟩
  ·obtain rfl:k=rs.length:=by omega
   go_wp2_with fail;go_ret
   exact⟨rfl,hb⟩

end Ty
end Go.Proofs.YtllbachngocmnaaGreatDoor
