/-
  The specification's place of a call.
-/
import Derived.Test.YtllbachngocmnaaGreatDoorP21
import Derived.Test.YtllbachngocmnaaGreatDoorP17
import Derived.ProofKit
import Derived.OpenShut
import Derived.ShutString
import Derived.ChangeOld
import Derived.Deep.Slices
import Derived.ChangeSlices
namespace Go.Proofs.YtllbachngocmnaaGreatDoor
open Go.RowKit
namespace Oc
open St (Vl RdV)

def ParseS (P:ByteArray→Bool):Prop:=∀ (s:ByteArray) (w:World),Told 69 (P s) s w

theorem sIn (x lo hi:Int)(w:World):Calls Tryz.prog 65 #[.int .i64 x,.int .i64 lo,.int .i64 hi] w fun e w'=>e=.returned (.bool (decide (lo≤x∧x≤hi)))∧w'=w:=by
 by_cases h1:lo≤x
 ·by_cases h2:x≤hi
  ·rw[decide_eq_true ⟨h1,h2⟩]
   go_enter Tryz.func65,Tryz.ntmps65
   go_wp2_with fail;go_ret
   exact⟨rfl,rfl⟩
  ·rw[decide_eq_false fun h=>h2 h.2]
   go_enter Tryz.func65,Tryz.ntmps65
   go_wp2_with fail;go_ret
   exact⟨rfl,rfl⟩
 ·rw[decide_eq_false fun h=>h1 h.1]
  have e:decide (lo≤x)=false:=decide_eq_false h1
  go_enter Tryz.func65,Tryz.ntmps65
  go_wp2_with fail;go_ret
  exact⟨rfl,rfl⟩

theorem empty_is (l:List UInt8):decide ((⟨l.toArray⟩:ByteArray).size=0)=decide (l=[]):=by
 cases l <;> simp[ByteArray.size]

set_option maxHeartbeats 4000000 in
set_option maxRecDepth 100000 in
theorem sOp29 {P:ByteArray→Bool}(n vars cells:Int){p:Int}(l:List UInt8)(w:World):
  Calls Tryz.prog 78 #[.agg #[.int .i64 29,.int .i64 n,.string ⟨l.toArray⟩],.int .i64 p,.int .i64 vars,.int .i64 cells] w fun e w'=>e=.returned (.bool (opB P vars cells p (29,n,⟨l.toArray⟩)))∧Below w.heap.size w w':=by
 have hb0:∀ o,Below w.heap.size w (w.alloc o):=fun o=>(Below.refl _ w).alloc (Nat.le_refl _) o;have kO:Hid (Blk 57 (w.alloc (.cells #[.int .i64 29,.int .i64 n,.string ⟨l.toArray⟩] 57)) w.heap.size [.int .i64 29,.int .i64 n,.string ⟨l.toArray⟩]):=Blk.new _ _ _
 obtain⟨R,hR⟩:∃ R,R=opB P vars cells p (29,n,⟨l.toArray⟩):=⟨_,rfl⟩
 rw[← hR]
 have H:Hid (R=(decide (1≤n∧n≤3)&&Ty.callB l)):=hR;have ci:=fun w=>sIn n 1 3 w;generalize decide (1≤n∧n≤3)=D at *;clear hR;cases D
 ·replace H:Hid (R=false):=H.out
  obtain⟨I,F,hI,hF1,hF2⟩:=Fam.family (w.alloc (.cells #[.int .i64 29,.int .i64 n,.string ⟨l.toArray⟩] 57))
  have HF:Hid _:=hF1;have HF2:Hid _:=hF2;have y1:=fun i=>((kO.out).below (hF1 i)).cell 1 rfl;have y2:=fun i=>((kO.out).below (hF1 i)).cell 2 rfl;clear hF1 hF2
  go_enter Tryz.func78,Tryz.ntmps78
  go_wp2_with fail;refine Fam.wp_region_fam (F:=F) (by kernel_rfl) (by kernel_rfl) (HF2.out _ (Below.drew (Below.refl _ _))) ?_
  repeat (go_big_quiet_step ((go_at_call 65;refine Calls.mono (ci _) ?_;rintro e w3 ⟨rfl,rfl⟩;exact⟨rfl,_,rfl⟩)))
  refine wpQuiet_nil ?_;rintro _ ⟨iq,rfl⟩;go_wp2_with fail;go_ret
  exact⟨by rw[H.out];rfl,(hb0 _).trans ((HF.out iq).mono (hb0 _).size)⟩
 ·replace H:Hid (R=Ty.callB l):=H.out.trans (Bool.true_and _);have hW:Below w.heap.size w ((w.alloc (.cells #[.int .i64 29,.int .i64 n,.string ⟨l.toArray⟩] 57)).drew):=(hb0 _).drew;have kD:=kO.out.below (Below.drew (Below.refl _ _));have cC:Calls Tryz.prog 118 #[] (w.alloc (.cells #[.int .i64 29,.int .i64 n,.string ⟨l.toArray⟩] 57)).drew fun e w'=>e=.returned (.slice (some ⟨w.heap.size+1,0,none⟩) 6 6)∧w'.cell? ⟨w.heap.size,2,none⟩=some (.string ⟨l.toArray⟩)∧Calls Tryz.prog 37 #[.slice (some ⟨w.heap.size+1,0,none⟩) 6 6,.string ⟨l.toArray⟩] w' (fun e w''=>e=.returned (.bool (Ty.callB l))∧Below w.heap.size w w''):=by
   refine (sCalls _).mono ?_;rintro e w' ⟨rfl,hr,hb'⟩;have hz:((w.alloc (.cells #[.int .i64 29,.int .i64 n,.string ⟨l.toArray⟩] 57)).drew).heap.size=w.heap.size+1:=by show (w.alloc _).heap.size=_;simp
   rw[hz] at hr ⊢
   refine⟨rfl,(kD.below hb').cell 2 rfl,(sWithin (L:=Ty.callL) (by decide) l _ 6 w' hr).mono ?_⟩
   rintro e w'' ⟨rfl,rfl⟩
   exact⟨rfl,hW.trans (hb'.mono hW.size)⟩
  generalize Ty.callB l=D2 at *;clear kD hW
  go_enter Tryz.func78,Tryz.ntmps78
  go_wp2_with fail
  go_region_with (first
   | (go_at_call 65;refine (ci _).mono ?_;rintro e w2 ⟨rfl,hw⟩;have hw:=hw.symm;subst hw)
   | (go_at_call 118;with_reducible refine cC.mono ?_;rintro e w3 ⟨rfl,y2,cW⟩)
   | (go_at_call 37;with_reducible refine cW.mono ?_;rintro e w4 ⟨rfl,hbc⟩))
  all_goals go_wp2_with fail
  all_goals go_ret
  all_goals exact⟨by rw[H.out];rfl,hbc⟩

end Oc
namespace Nd

theorem sMax (a b:Nat)(w:World):Calls Tryz.prog 119 #[.int .i64 a,.int .i64 b] w fun e w'=>e=.returned (.int .i64 (max a b:Nat))∧w'=w:=by
 by_cases h:b<a
 ·have h':(b:Int)<a:=by omega
  have HM:Hid (max a b=a):=by show _=_;omega
  go_enter Tryz.func119,Tryz.ntmps119
  go_wp2_with fail;go_ret
  exact⟨by rw[HM.out];rfl,rfl⟩
 ·have h':(a:Int)≤b:=by omega
  have HM:Hid (max a b=b):=by show _=_;omega
  clear h
  go_enter Tryz.func119,Tryz.ntmps119
  go_wp2_with fail;go_ret
  exact⟨by rw[HM.out];rfl,rfl⟩

def DeepOk (t:Data):Prop:=∀ (w:World) (S:Nat→Prop) (a b c u:Value),NodeIs w t S [a,b,c,u]→(∀ k,S k→k<w.heap.size) →
 Calls Tryz.prog 68 #[.agg #[a,b,c,u]] w fun e w'=>e=.returned (.int .i64 (dep t))∧Below w.heap.size w w'

theorem sDeep (t:Data):cnts (kidsOf t)≤1048576→DeepOk t:=by
 induction t using tree_ind with
 | h1 t ht =>
  intro _ w S a b c u h
  obtain⟨op,n,s,ks,rfl⟩:=node_node h
  exact absurd rfl (ht _ _)
 | h ks lab ih =>
  intro hc w S a b c u h hS
  obtain⟨op,n,s,ks',e⟩:=node_node h
  have e2:=congrArg kidsOf e;simp only[kidsOf,nd] at e2;subst e2
  rw[e] at h
  have hdep:dep (.slice ks lab)=deps ks+1:=by simp[dep]
  rw[hdep]
  replace hc:cnts ks≤1048576:=hc
  rw[node_nd] at h
  obtain⟨v,xs,he,ho,hg,hx⟩:=h
  simp at he
  obtain⟨rfl,rfl,rfl,rfl⟩:=he
  have hlen:=cnts_len ks;have hnI:(ks.length:Int)≤1048576:=by omega
  have hdc:deps ks≤1048576:=by have:=dep_cnt (nd op n s ks);rw[dep_nd,cnt_nd] at this;omega
  have HD:Hid (deps (ks.take ks.length)=deps ks):=by show _=_;rw[List.take_length]
  have HI:Hid (∀ i,(deps (ks.take i):Int)≤1048576):=fun i=>by have:=deps_le ks i;omega
  have HJ:Hid (∀ t∈ks,(dep t:Int)≤1048576):=fun t ht=>by have:=deps_mem ht;omega
  have hkids:∀ t∈ks,DeepOk t:=fun t ht=>ih t ht (by have:=cnts_mem ht;have:=cnt_kids t;omega)
  obtain⟨ao,cap,rfl⟩:=owns_slice ho
  obtain⟨o1,ho1⟩:∃ o1,o1=Obj.cells #[.int .i64 op,.int .i64 n,.string ⟨s.toArray⟩,.slice ao ks.length cap] 51:=⟨_,rfl⟩
  have hb0:Below w.heap.size w (w.alloc o1):=(Below.refl _ w).alloc (Nat.le_refl _) _;have hv0:Var (w.alloc o1) w.heap.size (.int .i64 op) (.int .i64 n) (.string ⟨s.toArray⟩) (.slice ao ks.length cap):=by rw[ho1];exact heap_new _ _
  subst ho1;clear ih hlen hc hdc e hdep
  go_enter Tryz.func68,Tryz.ntmps68
  go_wp2_with fail
  go_loopw [3,4] (fun mo i wr=>∃ k:Nat,k≤ks.length∧i=.int .i64 k∧mo=.int .i64 (deps (ks.take k))∧Below w.heap.size w wr∧Var wr w.heap.size (.int .i64 op) (.int .i64 n) (.string ⟨s.toArray⟩) (.slice ao ks.length cap)) (fun _ i _=>ks.length - (intOf i).toNat)
  case atStart=>exact⟨0,Nat.zero_le _,rfl,rfl,hb0,hv0⟩
  case round =>
   obtain⟨k,hkn,rfl,rfl,hb,hV⟩:=hrel
   have v3:=hV.cell.2.2.2
   by_cases hkl:k<ks.length
   ·have hki:ks[k]?=some ks[k]:=List.getElem?_eq_getElem hkl
    obtain⟨T1,a,b,c,u,x0,x1,x2,x3,hr1,hs1⟩:=nodes_at hx hki
    obtain⟨g,rfl,hg',hc'⟩:=row_cells ho hkl
    have cl:∀ j x,xs[j]?=some x→wr.cell? ⟨g,j,none⟩=some x:=fun j x hx=>(hb.cell (p:=⟨g,j,none⟩) hg').trans (hc' j x hx);have p0:=cl _ _ x0;have p1:=cl _ _ x1;have p2:=cl _ _ x2;have p3:=cl _ _ x3;have call:=hkids ks[k] (List.getElem_mem hkl) wr T1 a b c u (node_frame _ _ _ (fun j hj=>hb.block j (hS j (hs1 j hj).1)) hr1) (fun j hj=>Nat.lt_of_lt_of_le (hS j (hs1 j hj).1) hb.size);have HT2:Hid (deps (ks.take (k+1))=max (deps (ks.take k)) (dep ks[k])):=deps_take ks k ks[k] hki;have hd1:(dep ks[k]:Int)≤1048576:=HJ.out _ (List.getElem_mem hkl);have hi2:(deps (ks.take k):Int)≤1048576:=HI.out k;have hlt:=hV.lt;have bk:(k:Int)<ks.length:=by omega
    clear x0 x1 x2 x3 hc' cl hr1 hs1 hx ho hki hkids HI HD HJ;generalize dep ks[k]=D at *;generalize deps (ks.take k)=M at *
    go_wp2_with (first|(go_at_call 68;refine call.mono ?_;rintro e w2 ⟨rfl,hb2⟩)|(go_at_call 119;refine (sMax M D _).mono ?_;rintro e w3 ⟨rfl,hw⟩;have hw:=hw.symm;subst hw))
    go_roundw
    case rel=>exact⟨k+1,by omega,by go_num,by rw[HT2.out],hb.trans (hb2.mono hb.size),hV.kept (hb2.block _ hlt)⟩
    case measure=>simp[intOf];omega
   ·obtain rfl:k=ks.length:=by omega
    have hi3:(deps (ks.take ks.length):Int)≤1048576:=HI.out _;clear HI HJ hx ho hkids;generalize deps (ks.take ks.length)=M at *;go_wp2_with fail;go_ret
    exact⟨by rw[← HD.out];rfl,hb⟩

end Nd
end Go.Proofs.YtllbachngocmnaaGreatDoor
namespace Go.Proofs.YtllbachngocmnaaGreatDoor
open Go.ChangeShapes Go.WideShapes Go.ChangeAt Go.RowKit
open Go.ChangeMaps (open_string shut_string)
open Go.Deep (add_add)
namespace Ty

theorem laidOut:laidOutB Tryz.prog=true:=by kernel_rfl
theorem cellsNode:Tryz.prog.cellsOf 40=4:=by kernel_rfl
theorem cellsRule:Tryz.prog.cellsOf 42=9:=by kernel_rfl
theorem cellsInt:Tryz.prog.cellsOf 3=1:=by kernel_rfl
theorem cellsString:Tryz.prog.cellsOf 9=1:=by kernel_rfl
theorem cellsRow:Tryz.prog.cellsOf 38=1:=by kernel_rfl

theorem args_of {W:World}{a:Addr}(hspot:a.spot=none):∀ (len i:Nat),(∀ j,i≤j→j<i+len→∃ (x0 x1 x2 x3:Value) (t:Data),W.cell? ⟨a.block,a.off+j*4,none⟩=some x0∧W.cell? ⟨a.block,a.off+j*4+1,none⟩=some x1∧W.cell? ⟨a.block,a.off+j*4+2,none⟩=some x2∧W.cell? ⟨a.block,a.off+j*4+3,none⟩=some x3∧Nd.ArgIs W t [x0,x1,x2,x3]) →
  ∃ ts:List Data,ts.length=len∧Nd.ArgsIs W ts (some a) i
 | 0,i,_=>⟨[],rfl,trivial⟩
 | len+1,i,h=>by
  obtain⟨x0,x1,x2,x3,t,c0,c1,c2,c3,ht⟩:=h i (Nat.le_refl _) (by omega)
  obtain⟨ts,hl,hts⟩:=args_of hspot len (i+1) fun j h1 h2=>h j (by omega) (by omega)
  refine⟨t::ts,by simp[hl],⟨a.block,a.off,x0,x1,x2,x3,?_,World.block_lt_of_cell? W ⟨a.block,a.off+i*4,none⟩ c0,c0,c1,c2,c3,ht⟩,hts⟩
  obtain⟨b,o,sp⟩:=a
  simp at hspot;subst hspot;rfl

set_option maxRecDepth 100000 in
theorem arg_of {H:Type}{enc:TypeId × Value→H}{W:World}{sp:Nat→Bool}:∀ (fuel:Nat) {cs:List Value} {x:DataW H × List MemPlace},DataW.trod enc Tryz.prog W 0 sp true fuel 40 cs=some x→∃ t,Nd.ArgIs W t cs:=by
 intro fuel
 induction fuel using Nat.strongRecOn with
 | ind fuel ih =>
  intro cs x h
  obtain⟨xs,k,hfk,_,hcl,hxs,hf⟩:=DataW.trod_struct Tryz.underlying40 h
  rw[cellsNode] at hcl
  match cs,hcl,xs,hxs with
  | [v0,v1,v2,v3],_,[y0,y1,y2,y3],_ =>
   have f0:=hf 0 _ rfl;have f1:=hf 1 _ rfl;have f2:=hf 2 _ rfl;have f3:=hf 3 _ rfl;simp[cellsInt,cellsRow,cellsString] at f0 f1 f2 f3
   obtain⟨z0,e0,_⟩:=DataW.trod_int Tryz.underlying3 f0
   obtain⟨z1,e1,_⟩:=DataW.trod_int Tryz.underlying3 f1
   obtain⟨s,e2,_,hs⟩:=DataW.trod_string Tryz.underlying9 f2
   simp only[List.cons.injEq,and_true] at e0 e1 e2;subst e0 e1 e2;have hsl:(s.data.toList.length:Nat)≤maxLen:=by simpa using hs
   have hss:(⟨s.data.toList.toArray⟩:ByteArray)=s:=by cases s;simp
   rcases DataW.trod_slice Tryz.underlying38 f3 with ⟨hcs,_⟩|⟨a,len,cap,elems,rest,n,hn,hcs,_,_,hlc,hcm,hel,hall,_⟩
   ·simp only[List.cons.injEq,and_true] at hcs;subst hcs
    refine⟨Nd.nd z0 z1 s.data.toList [],?_⟩
    unfold Nd.nd
    rw[Nd.ArgIs]
    exact⟨z0,z1,s.data.toList,none,0,rfl,by rw[hss];rfl,hsl,by simp,trivial⟩
   ·simp only[List.cons.injEq,and_true] at hcs;subst hcs;have each:∀ i,i<len→∃ cs',W.cells? 0 (a.add (i*4)) 4=some cs'∧∃ y,DataW.trod enc Tryz.prog W 0 sp true n 40 cs'=some y:=fun i hi=>by
     have hi':=hall i hi
     rw[cellsNode,List.getElem?_eq_getElem (by omega)] at hi'
     cases hq:W.cells? 0 (a.add (i*4)) 4 with
     | none=>rw[hq] at hi';simp at hi'
     | some cs'=>rw[hq] at hi';exact⟨cs',rfl,_,hi'⟩
    have hspot:0<len→a.spot=none:=by
     intro h0
     obtain⟨cs',h1,_⟩:=each 0 h0
     obtain⟨_,hlen,hcell⟩:=World.cells?_some h1
     match cs',hlen with
     | [v0,v1,v2,v3],_ =>
      have c0:=hcell 0 (by omega)
      have:=World.cell?_spot c0
      simpa [Addr.add] using this
    obtain⟨ts,hl,hts⟩:∃ ts:List Data,ts.length=len∧Nd.ArgsIs W ts (some a) 0:=by
     by_cases h0:0<len
     ·refine args_of (hspot h0) len 0 fun j _ hj=>?_
      obtain⟨cs',h1,y,h2⟩:=each j (by omega)
      obtain⟨t,ht⟩:=ih n (by omega) h2
      obtain⟨_,hlen,hcell⟩:=World.cells?_some h1
      match cs',hlen with
      | [w0,w1,w2,w3],_ =>
       have c0:=hcell 0 (by omega);have c1:=hcell 1 (by omega);have c2:=hcell 2 (by omega);have c3:=hcell 3 (by omega)
       rw[add_add] at c0 c1 c2 c3
       have hsp:=hspot h0
       obtain⟨b,o,spot⟩:=a
       simp at hsp;subst hsp;have hadd:∀ j,(⟨b,o,none⟩:Addr).add j=⟨b,o+j,none⟩:=fun j=>by unfold Addr.add;split <;> simp_all
       simp only[List.getElem?_cons_zero,List.getElem?_cons_succ,Nat.add_zero] at c0 c1 c2 c3;simp only[hadd,← Nat.add_assoc] at c0 c1 c2 c3
       exact⟨w0,w1,w2,w3,t,c0,c1,c2,c3,ht⟩
     ·obtain rfl:len=0:=by omega
      exact⟨[],rfl,trivial⟩
    subst hl
    refine⟨Nd.nd z0 z1 s.data.toList ts,?_⟩
    unfold Nd.nd
    rw[Nd.ArgIs]
    exact⟨z0,z1,s.data.toList,some a,cap,rfl,by rw[hss],hsl,by omega,hts⟩

set_option maxRecDepth 100000 in
theorem rule_of {H:Type}{enc:TypeId × Value→H}{W:World}{sp:Nat→Bool}{fuel:Nat}{cs:List Value}{x:DataW H × List MemPlace}(h:DataW.trod enc Tryz.prog W 0 sp true fuel 42 cs=some x):
  ∃ (r:Ru) (p0 p1 p2 p3 b0 b1 b2 b3:Value),cs=[.int .i64 r.1,p0,p1,p2,p3,b0,b1,b2,b3]∧Nd.ArgIs W r.2.1 [p0,p1,p2,p3]∧Nd.ArgIs W r.2.2 [b0,b1,b2,b3]:=by
 obtain⟨xs,k,hfk,_,hcl,hxs,hf⟩:=DataW.trod_struct Tryz.underlying42 h
 rw[cellsRule] at hcl
 match cs,hcl,xs,hxs with
 | [v0,v1,v2,v3,v4,v5,v6,v7,v8],_,[y0,y1,y2],_ =>
  have f0:=hf 0 _ rfl;have f1:=hf 1 _ rfl;have f2:=hf 2 _ rfl;simp[cellsInt,cellsNode] at f0 f1 f2
  obtain⟨z0,e0,_⟩:=DataW.trod_int Tryz.underlying3 f0
  simp only[List.cons.injEq,and_true] at e0;subst e0
  obtain⟨t1,h1⟩:=arg_of k f1
  obtain⟨t2,h2⟩:=arg_of k f2
  exact⟨(z0,t1,t2),v1,v2,v3,v4,v5,v6,v7,v8,rfl,h1,h2⟩

theorem rargs_of {W:World}{a:Addr}(hspot:a.spot=none):∀ (len i:Nat),(∀ j,i≤j→j<i+len→∃ (r:Ru) (p0 p1 p2 p3 b0 b1 b2 b3:Value),W.cell? ⟨a.block,a.off+j*9,none⟩=some (.int .i64 r.1)∧W.cell? ⟨a.block,a.off+j*9+1,none⟩=some p0∧W.cell? ⟨a.block,a.off+j*9+2,none⟩=some p1∧W.cell? ⟨a.block,a.off+j*9+3,none⟩=some p2∧W.cell? ⟨a.block,a.off+j*9+4,none⟩=some p3 ∧
   W.cell? ⟨a.block,a.off+j*9+5,none⟩=some b0∧W.cell? ⟨a.block,a.off+j*9+6,none⟩=some b1∧W.cell? ⟨a.block,a.off+j*9+7,none⟩=some b2∧W.cell? ⟨a.block,a.off+j*9+8,none⟩=some b3∧Nd.ArgIs W r.2.1 [p0,p1,p2,p3]∧Nd.ArgIs W r.2.2 [b0,b1,b2,b3]) →
  ∃ rs:List Ru,rs.length=len∧RArgs W rs (some a) i
 | 0,i,_=>⟨[],rfl,trivial⟩
 | len+1,i,h=>by
  obtain⟨r,p0,p1,p2,p3,b0,b1,b2,b3,c0,c1,c2,c3,c4,c5,c6,c7,c8,hp,hb⟩:=h i (Nat.le_refl _) (by omega)
  obtain⟨rs,hl,hrs⟩:=rargs_of hspot len (i+1) fun j h1 h2=>h j (by omega) (by omega)
  refine⟨r::rs,by simp[hl],⟨a.block,a.off,p0,p1,p2,p3,b0,b1,b2,b3,?_,World.block_lt_of_cell? W ⟨a.block,a.off+i*9,none⟩ c0,c0,c1,c2,c3,c4,c5,c6,c7,c8,hp,hb⟩,hrs⟩
  obtain⟨b,o,sp⟩:=a
  simp at hspot;subst hspot;rfl

set_option maxRecDepth 100000 in
theorem rules_of {H:Type}{enc:TypeId × Value→H}{W:World}{sp:Nat→Bool}{fuel:Nat}{a0:Option Addr}{len0 cap0:Nat}{x:DataW H × List MemPlace}(h:DataW.trod enc Tryz.prog W 0 sp true fuel 22 [.slice a0 len0 cap0]=some x):
  ∃ rs:List Ru,rs.length=len0∧rs.length≤maxLen∧RArgs W rs a0 0:=by
 rcases DataW.trod_slice Tryz.underlying22 h with ⟨hcs,_⟩|⟨a,len,cap,elems,rest,n,hn,hcs,_,_,hlc,hcm,hel,hall,_⟩
 ·simp only[List.cons.injEq,and_true,Value.slice.injEq] at hcs
  obtain⟨rfl,rfl,rfl⟩:=hcs
  exact⟨[],rfl,by simp,trivial⟩
 ·simp only[List.cons.injEq,and_true,Value.slice.injEq] at hcs
  obtain⟨rfl,rfl,rfl⟩:=hcs
  have each:∀ i,i<len0→∃ cs',W.cells? 0 (a.add (i*9)) 9=some cs'∧∃ y,DataW.trod enc Tryz.prog W 0 sp true n 42 cs'=some y:=fun i hi=>by
   have hi':=hall i hi
   rw[cellsRule,List.getElem?_eq_getElem (by omega)] at hi'
   cases hq:W.cells? 0 (a.add (i*9)) 9 with
   | none=>rw[hq] at hi';simp at hi'
   | some cs'=>rw[hq] at hi';exact⟨cs',rfl,_,hi'⟩
  have hspot:0<len0→a.spot=none:=by
   intro h0
   obtain⟨cs',h1,y,h2⟩:=each 0 h0
   obtain⟨_,hlen,hcell⟩:=World.cells?_some h1
   obtain⟨r,p0,p1,p2,p3,b0,b1,b2,b3,rfl,_⟩:=rule_of h2
   have c0:=hcell 0 (by omega)
   have:=World.cell?_spot c0
   simpa [Addr.add] using this
  by_cases h0:0<len0
  ·obtain⟨rs,hl,hrs⟩:=rargs_of (hspot h0) len0 0 fun j _ hj=>by
    obtain⟨cs',h1,y,h2⟩:=each j (by omega)
    obtain⟨_,hlen,hcell⟩:=World.cells?_some h1
    obtain⟨r,p0,p1,p2,p3,b0,b1,b2,b3,rfl,hp,hb⟩:=rule_of h2
    have c0:=hcell 0 (by omega);have c1:=hcell 1 (by omega);have c2:=hcell 2 (by omega);have c3:=hcell 3 (by omega);have c4:=hcell 4 (by omega);have c5:=hcell 5 (by omega);have c6:=hcell 6 (by omega);have c7:=hcell 7 (by omega);have c8:=hcell 8 (by omega)
    rw[add_add] at c0 c1 c2 c3 c4 c5 c6 c7 c8
    have hsp:=hspot h0
    obtain⟨b,o,spot⟩:=a
    simp at hsp;subst hsp;have hadd:∀ j,(⟨b,o,none⟩:Addr).add j=⟨b,o+j,none⟩:=fun j=>by unfold Addr.add;split <;> simp_all
    simp only[List.getElem?_cons_zero,List.getElem?_cons_succ,Nat.add_zero] at c0 c1 c2 c3 c4 c5 c6 c7 c8;simp only[hadd,← Nat.add_assoc] at c0 c1 c2 c3 c4 c5 c6 c7 c8
    exact⟨r,p0,p1,p2,p3,b0,b1,b2,b3,c0,c1,c2,c3,c4,c5,c6,c7,c8,hp,hb⟩
   exact⟨rs,hl,by omega,hrs⟩
  ·obtain rfl:len0=0:=by omega
   exact⟨[],rfl,by simp,trivial⟩

end Ty
end Go.Proofs.YtllbachngocmnaaGreatDoor
