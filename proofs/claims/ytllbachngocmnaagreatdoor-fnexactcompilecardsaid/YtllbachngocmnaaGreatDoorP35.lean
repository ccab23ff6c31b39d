/-
  RexParse of the program, and what it defers.
-/
import Derived.Test.YtllbachngocmnaaGreatDoorP34
import Derived.Test.YtllbachngocmnaaGreatDoorP25
namespace Go.Proofs.YtllbachngocmnaaGreatDoor
open Go.RowKit
namespace Rx

def Flag (w:World)(q:Nat)(b:Bool):Prop:=w.heap[q]?=some (.cells #[.bool b] 4 (0,0))
theorem Flag.cell {w:World}{q:Nat}{b:Bool}(h:Flag w q b):w.cell? ⟨q,0,none⟩=some (.bool b):=by
 rw[cell_of_row w q _ _ _ _ h];rfl
theorem Flag.frozen {w:World}{q:Nat}{b:Bool}(h:Flag w q b):w.frozen? ⟨q,0,none⟩=false:=by
 unfold Flag at h;simp[World.frozen?,h]
theorem Flag.set {w:World}{q:Nat}{b:Bool}(h:Flag w q b)(x:Bool):Flag (w.setCell ⟨q,0,none⟩ (.bool x)) q x:=by
 unfold Flag at h ⊢;simp[World.setCell,Array.getElem?_modify,h]
theorem Flag.kept {w w':World}{q:Nat}{b:Bool}(h:Flag w q b)(hw:w'.heap[q]?=w.heap[q]?):Flag w' q b:=hw.trans h

theorem frozen_of_row {w:World}{q:Nat}{cs:Array Value}{t:TypeId}(h:w.heap[q]?=some (.cells cs t (0,0)))(k:Nat):w.frozen? ⟨q,k,none⟩=false:=by simp[World.frozen?,h]

def Zero (w:World)(q:Nat):Prop:=Var w q (.int .i64 0) (.int .i64 0) (.string ⟨#[]⟩) (.bool false) (.slice none 0 0)

theorem catch_panicking (B:Nat)(a b c d u:Value)(f:Bool)(ad:Addr)(w:World)(hV:Var w B a b c d u)(hF:Flag w (B+1) f):
  CallsD Tryz.prog 127 #[.pointer (some ⟨B,0,none⟩),.pointer (some ⟨B+1,0,none⟩)] (.panicking [{ v:=errV ad,recovered:=false }]) w fun e u' w' =>
   e=.returned (.tuple #[])∧u'=.panicking [{ v:=errV ad,recovered:=true }]∧Zero w' B∧Flag w' (B+1) false∧Below B w w':=by
 have hcs:=hV.cell;have c0:=hcs.1;have c1:=hcs.2.1;have c2:=hcs.2.2.1;have c3:=hcs.2.2.2.1;have c4:=hcs.2.2.2.2;have y0:=hV.frozen 0;have y1:=hV.frozen 1;have y2:=hV.frozen 2;have y3:=hV.frozen 3;have y4:=hV.frozen 4;have g0:=hF.cell;have g1:=hF.frozen;unfold errV;refine callsD_of_wpS Tryz.func127 rfl fun c₀ cs hu=>?_;apply wpS_seq;apply wpS_region;simp[wpOpsS,go_sem,recoverD,hu,Tryz.ntmps127,Exit.thenS];refine wpS_cond (t:=true) (by simp[Act.eval,Array.replicate]) ?_;simp only[if_true];apply wpS_region;simp[wpOpsS,go_sem,c0,c1,c2,c3,c4,y0,y1,y2,y3,y4,g0,g1,bodyPostS,results,Tryz.results127];have hn:∀ (n:Nat) (x:Value) (W:World),(W.setCell ⟨B,n,none⟩ x).heap[B+1]?=W.heap[B+1]?:=fun n x W=>Below.heap_setCell W ⟨B,n,none⟩ x _ (by simp);have hb:∀ (n:Nat) (x:Value) (W:World),Below B w W→Below B w (W.setCell ⟨B,n,none⟩ x):=fun n x W hW=>hW.setCell (p:=⟨B,n,none⟩) (Nat.le_refl _) x
 refine⟨(((((hV.set0 _).set1 _).set2 _).set3 _).set4 _).kept (Below.heap_setCell _ ⟨B+1,0,none⟩ _ _ (by simp)),(hF.kept ?_).set false,?_⟩
 ·rw[hn,hn,hn,hn,hn]
 ·exact (hb _ _ _ (hb _ _ _ (hb _ _ _ (hb _ _ _ (hb _ _ _ (Below.refl _ w)))))).setCell (p:=⟨B+1,0,none⟩) (by simp) _

theorem catch_idle (B:Nat)(w:World):
  CallsD Tryz.prog 127 #[.pointer (some ⟨B,0,none⟩),.pointer (some ⟨B+1,0,none⟩)] .returning w fun e u' w'=>e=.returned (.tuple #[])∧u'=.returning∧w'=w:=by
 refine callsD_of_wpS Tryz.func127 rfl fun c₀ cs hu=>?_;apply wpS_seq;apply wpS_region;simp[wpOpsS,go_sem,recoverD,hu,Tryz.ntmps127,Exit.thenS];refine wpS_cond (t:=false) (by simp[Act.eval,Array.replicate]) ?_;simp only[Bool.false_eq_true,if_false];refine wpS_of_wp (wp_skip ?_);cases c₀;simp_all [bodyPostS,results,Tryz.results127]

def parseV (s:ByteArray):Option Data:=if 60<s.size then none else wholeV (gOf s) s.size 61

def RexOut (r:Option Data)(w:World)(e:Ending)(w':World):Prop:=match r with
 | none=>e=.returned (.tuple #[.agg #[.int .i64 0,.int .i64 0,.string ⟨#[]⟩,.bool false,.slice none 0 0],.bool false])∧Below w.heap.size w w'
 | some t=>∃ a b c d u,e=.returned (.tuple #[.agg #[a,b,c,d,u],.bool true])∧Below w.heap.size w w'∧RexIs w' t (Iv w.heap.size w'.heap.size) [a,b,c,d,u]

set_option maxRecDepth 100000 in
theorem iRexParse (s:ByteArray)(ad:Addr)(w:World)(herr:w.cell? ⟨2,0,none⟩=some (.iface 286 (.pointer (some ad))))(h63:(s.size:Int)<9000000000000000000):
  Calls Tryz.prog 92 #[.string s] w fun e w'=>RexOut (parseV s) w e w':=by
 have hmf:∀ (fn:Fn) (first cap:Array Value) (w:World),(Instr.makeFunc fn first cap).run Tryz.prog w=.ok (.func fn first cap) w:=fun _ _ _ _=>rfl;have helt:2<w.heap.size:=World.block_lt_of_cell? w _ herr
 obtain⟨o1,ho1⟩:∃ o1,o1=Obj.cells #[.int .i64 0,.int .i64 0,.string ⟨#[]⟩,.bool false,.slice none 0 0] 103:=⟨_,rfl⟩
 obtain⟨o2,ho2⟩:∃ o2,o2=Obj.cells #[.bool false] 4:=⟨_,rfl⟩
 have hV0:Zero ((w.alloc o1).alloc o2) w.heap.size:=by
  unfold Zero Var
  rw[Below.heap_alloc _ _ _ (by simp),heap_alloc_last,ho1]
 have hF0:Flag ((w.alloc o1).alloc o2) (w.heap.size+1) false:=by
  have:=heap_alloc_last (w.alloc o1) o2
  unfold Flag
  rw[ho2] at this ⊢
  simpa using this
 have hb0:Below w.heap.size w ((w.alloc o1).alloc o2):=((Below.refl _ w).alloc (Nat.le_refl _) _).alloc (by simp) _;have herr0:((w.alloc o1).alloc o2).cell? ⟨2,0,none⟩=some (.iface 286 (.pointer (some ad))):=(hb0.cell (p:=⟨2,0,none⟩) helt).trans herr
 by_cases hlen:60<s.size
 ·have hR:parseV s=none:=by unfold parseV;rw[if_pos hlen]
  rw[hR]
  have hl:(60:Int)<s.size:=by omega
  subst ho1 ho2
  go_enter_defers Tryz.func92,Tryz.ntmps92
  go_wp2_with fail;refine leaves_cons (f:=127) (args:=#[.pointer (some ⟨w.heap.size,0,none⟩),.pointer (some ⟨w.heap.size+1,0,none⟩)]) (by simp) (by simp[go_sem]) ?_;refine (catch_panicking w.heap.size _ _ _ _ _ _ ad _ hV0 hF0).mono ?_;rintro e u' w'' ⟨rfl,rfl,hz,hf,hb⟩;have hzc:=Var.cell hz;have z0:=hzc.1;have z1:=hzc.2.1;have z2:=hzc.2.2.1;have z3:=hzc.2.2.2.1;have z4:=hzc.2.2.2.2;have z5:=hf.cell;have hbb:=hb0.trans hb;simp[Leaves,settle,results,Tryz.results92,go_sem,z0,z1,z2,z3,z4,z5]
  exact⟨rfl,hbb⟩
 ·have hs:s.size≤1000:=by omega
  have hl:decide ((60:Int)<s.size)=false:=decide_eq_false (by omega)
  obtain⟨o3,ho3⟩:∃ o3,o3=Obj.cells #[.string s,.int .i64 0] 170:=⟨_,rfl⟩
  have hbr:Below (w.heap.size+2) ((w.alloc o1).alloc o2) (((w.alloc o1).alloc o2).alloc o3):=(Below.refl _ _).alloc (by simp) _;have hRow:(((w.alloc o1).alloc o2).alloc o3).heap[w.heap.size+2]?=some o3:=by
   have:=heap_alloc_last ((w.alloc o1).alloc o2) o3
   simpa using this
  have hRd:Rd (w.heap.size+2) s ad 0 (((w.alloc o1).alloc o2).alloc o3):=by
   rw[ho3] at hRow ⊢
   refine⟨?_,?_,?_,?_,by omega⟩
   ·rw[cell_of_row _ _ _ _ _ _ hRow];rfl
   ·rw[cell_of_row _ _ _ _ _ _ hRow];rfl
   ·exact frozen_of_row hRow 1
   ·rw[← ho3];exact (hbr.cell (p:=⟨2,0,none⟩) (Nat.lt_of_lt_of_le helt (by omega))).trans herr0
  have hV1:Zero (((w.alloc o1).alloc o2).alloc o3) w.heap.size:=Var.kept hV0 (hbr.block _ (by omega));have hF1:Flag (((w.alloc o1).alloc o2).alloc o3) (w.heap.size+1) false:=hF0.kept (hbr.block _ (by omega));have hb1:Below w.heap.size w (((w.alloc o1).alloc o2).alloc o3):=hb0.alloc (by simp;omega) _
  obtain⟨n,hn⟩:∃ n,n=61:=⟨_,rfl⟩
  have hw:=iWhole hs hRd n (by omega)
  obtain⟨R,hR⟩:∃ R,R=parseV s:=⟨_,rfl⟩
  rw[← hR]
  have hR:R=wholeV (gOf s) s.size n:=by rw[hR,hn];unfold parseV;rw[if_neg hlen]
  unfold wholeV at hR;have hszr:∀ {w1:World},(((w.alloc o1).alloc o2).alloc o3).grownBy w1 (some (w.heap.size+2))→Zero w1 w.heap.size∧Flag w1 (w.heap.size+1) false∧Below w.heap.size w w1∧w.heap.size+3≤w1.heap.size:=by
   intro w1 hg;have hsz:=hg.size;simp at hsz
   refine⟨Var.kept hV1 (hg.block _ (by simp;omega) (by simp)),hF1.kept (hg.block _ (by simp) (by simp)),?_,by omega⟩
   exact⟨hg.os.trans hb1.os,hg.tape.trans hb1.tape,hg.output.trans hb1.output,Nat.le_trans hb1.size hg.size,fun k hk=>(hg.block k (by simp;omega) (by simp;omega)).trans (hb1.block k hk)⟩
  have HZ:Hid (∀ w1,(((w.alloc o1).alloc o2).alloc o3).grownBy w1 (some (w.heap.size+2))→Zero w1 w.heap.size∧Flag w1 (w.heap.size+1) false∧Below w.heap.size w w1∧w.heap.size+3≤w1.heap.size):=fun w1=>hszr;clear hszr;clear hn hV0 hF0 hb0 herr0 hRd hV1 hF1 hb1 hRow hbr hlen;rcases hq:patN (gOf s) s.size n 0 with _|⟨t,j⟩
  ·rw[hq] at hR hw
   have HR:Hid _:=hR;clear hR;subst ho1 ho2 ho3
   go_enter_defers Tryz.func92,Tryz.ntmps92
   go_wp2_with (go_at_call 128;refine hw.mono ?_;intro e w1 h1;obtain⟨rfl,hg1⟩:=reads_none h1 rfl;obtain⟨k1,k2,k3,k4⟩:=HZ.out w1 hg1)
   refine leaves_cons (f:=127) (args:=#[.pointer (some ⟨w.heap.size,0,none⟩),.pointer (some ⟨w.heap.size+1,0,none⟩)]) (by simp) (by simp[go_sem]) ?_;refine (catch_panicking w.heap.size _ _ _ _ _ _ ad _ k1 k2).mono ?_;rintro e u' w'' ⟨rfl,rfl,hz,hf,hb⟩;have hzc:=Var.cell hz;have z0:=hzc.1;have z1:=hzc.2.1;have z2:=hzc.2.2.1;have z3:=hzc.2.2.2.1;have z4:=hzc.2.2.2.2;have z5:=hf.cell;have hbb:=k3.trans hb;simp[Leaves,settle,results,Tryz.results92,go_sem,z0,z1,z2,z3,z4,z5]
   rw[HR.out]
   exact⟨rfl,hbb⟩
  ·rw[hq] at hR hw
   have hcnt:=patN_cnt (g:=gOf s) gOf_end hq;have hjn:=(patN_in (g:=gOf s) gOf_end hq).2 (by omega)
   by_cases hj:j=s.size
   ·have hw':endOf s (some (t,j))=some (t,j):=by unfold endOf;simp[hj]
    rw[hw'] at hw
    by_cases hd:dep t≤12
    ·have HR:Hid (R=some t):=by show _=_;rw[hR];simp[hj,hd]
     clear hR hj hq hw';have hd':decide ((12:Int)<dep t)=false:=decide_eq_false (by omega);clear hd;subst ho1 ho2 ho3
     go_enter_defers Tryz.func92,Tryz.ntmps92
     go_wp2_with (first|(go_at_call 128;refine hw.mono ?_;intro e w1 h1;obtain⟨v,rfl,hv,h2,hg1⟩:=reads_some h1 rfl;obtain⟨k1,k2,k3,k4⟩:=HZ.out w1 hg1)|(go_at_call 129;refine (iDepthOf (dep t) t _ v w1 (Nat.le_refl _) (by omega) hv (fun k hk=>hk.2)).mono ?_;rintro e w2 ⟨rfl,hb2⟩;have k1':=Var.kept k1 (hb2.block _ (by omega));have k2':=k2.kept (hb2.block _ (by omega));have k3':=k3.trans (hb2.mono (by omega));have hs2:=hb2.size;have hv2:=pat_frame (fun k hk=>hb2.block k hk.2) (fun _ h=>h) t v hv)|(go_at_call 130;refine (iRexOf (dep t) t _ v w2 (Nat.le_refl _) (by omega) hv2 (fun k hk=>Nat.lt_of_lt_of_le hk.2 hs2)).mono ?_;rintro e w3 ⟨ra,rb,rc,rd,ru,rfl,hb3,hr3⟩;obtain⟨op3,cc3,ss3,no3,ao3,n3,cap3,rfl,rfl,rfl,rfl,rfl⟩:=rex_cells hr3;have m1:=Var.kept k1' (hb3.block _ (by omega));have m2:=k2'.kept (hb3.block _ (by omega));have mc:=Var.cell m1;have z0:=mc.1;have z1:=mc.2.1;have z2:=mc.2.2.1;have z3:=mc.2.2.2.1;have z4:=mc.2.2.2.2;have y0:=Var.frozen m1 0;have y1:=Var.frozen m1 1;have y2:=Var.frozen m1 2;have y3:=Var.frozen m1 3;have y4:=Var.frozen m1 4;have q0:=m2.cell;have q1:=m2.frozen))
     have hn1:∀ (n:Nat) (x:Value) (W:World) (j:Nat),j≠w.heap.size→(W.setCell ⟨w.heap.size,n,none⟩ x).heap[j]?=W.heap[j]?:=fun n x W j hj=>Below.heap_setCell W ⟨w.heap.size,n,none⟩ x j hj;have hn2:∀ (x:Value) (W:World) (j:Nat),j≠w.heap.size+1→(W.setCell ⟨w.heap.size+1,0,none⟩ x).heap[j]?=W.heap[j]?:=fun x W j hj=>Below.heap_setCell W ⟨w.heap.size+1,0,none⟩ x j hj;have hbs:∀ (n:Nat) (x:Value) (W:World),Below w.heap.size w W→Below w.heap.size w (W.setCell ⟨w.heap.size,n,none⟩ x):=fun n x W hW=>hW.setCell (p:=⟨w.heap.size,n,none⟩) (Nat.le_refl _) x;have hb03:Below w.heap.size w w3:=k3'.trans (hb3.mono (by omega));have hvF:=(((((Var.set0 m1 (.int .i64 op3)).set1 (.int .i64 cc3)).set2 (.string ⟨ss3.toArray⟩)).set3 (.bool no3)).set4 (.slice ao3 n3 cap3)).kept (hn2 (.bool true) _ _ (by omega));have hfF:=Flag.set (w:=((((w3.setCell ⟨w.heap.size,0,none⟩ (.int .i64 op3)).setCell ⟨w.heap.size,1,none⟩ (.int .i64 cc3)).setCell ⟨w.heap.size,2,none⟩ (.string ⟨ss3.toArray⟩)).setCell ⟨w.heap.size,3,none⟩ (.bool no3)).setCell ⟨w.heap.size,4,none⟩ (.slice ao3 n3 cap3)) (m2.kept (by rw[hn1 _ _ _ _ (by omega),hn1 _ _ _ _ (by omega),hn1 _ _ _ _ (by omega),hn1 _ _ _ _ (by omega),hn1 _ _ _ _ (by omega)])) true;have hbF:=(hbs 4 (.slice ao3 n3 cap3) _ (hbs 3 (.bool no3) _ (hbs 2 (.string ⟨ss3.toArray⟩) _ (hbs 1 (.int .i64 cc3) _ (hbs 0 (.int .i64 op3) _ hb03))))).setCell (p:=⟨w.heap.size+1,0,none⟩) (by simp) (.bool true);have hrF:=rex_mono (S':=Iv w.heap.size w3.heap.size) (rex_frame (w':=(((((w3.setCell ⟨w.heap.size,0,none⟩ (.int .i64 op3)).setCell ⟨w.heap.size,1,none⟩ (.int .i64 cc3)).setCell ⟨w.heap.size,2,none⟩ (.string ⟨ss3.toArray⟩)).setCell ⟨w.heap.size,3,none⟩ (.bool no3)).setCell ⟨w.heap.size,4,none⟩ (.slice ao3 n3 cap3)).setCell ⟨w.heap.size+1,0,none⟩ (.bool true)) t _ _ (fun j hj=>by
      have:=hj.1
      rw[hn2 _ _ _ (by omega),hn1 _ _ _ _ (by omega),hn1 _ _ _ _ (by omega),hn1 _ _ _ _ (by omega),hn1 _ _ _ _ (by omega),hn1 _ _ _ _ (by omega)]) hr3) (fun j hj=>⟨by have:=hj.1;omega,hj.2⟩)
     refine leaves_cons (f:=127) (args:=#[.pointer (some ⟨w.heap.size,0,none⟩),.pointer (some ⟨w.heap.size+1,0,none⟩)]) (by simp) (by simp[go_sem]) ?_;refine (catch_idle w.heap.size _).mono ?_;rintro e u' w'' ⟨rfl,rfl,rfl⟩;have hzc:=Var.cell hvF;have x0:=hzc.1;have x1:=hzc.2.1;have x2:=hzc.2.2.1;have x3:=hzc.2.2.2.1;have x4:=hzc.2.2.2.2;have x5:=hfF.cell;have HF:Hid _:=And.intro hbF hrF;clear hvF hfF hbF hrF hzc m1 m2 mc z0 z1 z2 z3 z4 y0 y1 y2 y3 y4 q0 q1 hn1 hn2 hbs hr3;simp[Leaves,settle,results,Tryz.results92,go_sem,x0,x1,x2,x3,x4,x5]
     rw[HR.out]
     exact⟨_,_,_,_,_,rfl,HF.out.1,rex_mono HF.out.2 fun j hj=>⟨hj.1,by simpa using hj.2⟩⟩
    ·have HR:Hid (R=none):=by show _=_;rw[hR];simp[hd]
     clear hR hj hq hw';have hd':(12:Int)<dep t:=by omega
     subst ho1 ho2 ho3
     go_enter_defers Tryz.func92,Tryz.ntmps92
     go_wp2_with (first|(go_at_call 128;refine hw.mono ?_;intro e w1 h1;obtain⟨v,rfl,hv,h2,hg1⟩:=reads_some h1 rfl;obtain⟨k1,k2,k3,k4⟩:=HZ.out w1 hg1)|(go_at_call 129;refine (iDepthOf (dep t) t _ v w1 (Nat.le_refl _) (by omega) hv (fun k hk=>hk.2)).mono ?_;rintro e w2 ⟨rfl,hb2⟩;have h3:=h2.below hb2 h2.lt h2.elt;have c3:=h3.err;have k1':=Var.kept k1 (hb2.block _ (by omega));have k2':=k2.kept (hb2.block _ (by omega));have k3':=k3.trans (hb2.mono (by omega))))
     refine leaves_cons (f:=127) (args:=#[.pointer (some ⟨w.heap.size,0,none⟩),.pointer (some ⟨w.heap.size+1,0,none⟩)]) (by simp) (by simp[go_sem]) ?_;refine (catch_panicking w.heap.size _ _ _ _ _ _ ad _ k1' k2').mono ?_;rintro e u' w'' ⟨rfl,rfl,hz,hf,hb⟩;have hzc:=Var.cell hz;have z0:=hzc.1;have z1:=hzc.2.1;have z2:=hzc.2.2.1;have z3:=hzc.2.2.2.1;have z4:=hzc.2.2.2.2;have z5:=hf.cell;have hbb:=k3'.trans hb;simp[Leaves,settle,results,Tryz.results92,go_sem,z0,z1,z2,z3,z4,z5]
     rw[HR.out]
     exact⟨rfl,hbb⟩
   ·have hw':endOf s (some (t,j))=none:=by unfold endOf;simp[hj]
    rw[hw'] at hw
    have HR:Hid (R=none):=by show _=_;rw[hR];simp[hj]
    clear hR hj hq hw';subst ho1 ho2 ho3
    go_enter_defers Tryz.func92,Tryz.ntmps92
    go_wp2_with (go_at_call 128;refine hw.mono ?_;intro e w1 h1;obtain⟨rfl,hg1⟩:=reads_none h1 rfl;obtain⟨k1,k2,k3,k4⟩:=HZ.out w1 hg1)
    refine leaves_cons (f:=127) (args:=#[.pointer (some ⟨w.heap.size,0,none⟩),.pointer (some ⟨w.heap.size+1,0,none⟩)]) (by simp) (by simp[go_sem]) ?_;refine (catch_panicking w.heap.size _ _ _ _ _ _ ad _ k1 k2).mono ?_;rintro e u' w'' ⟨rfl,rfl,hz,hf,hb⟩;have hzc:=Var.cell hz;have z0:=hzc.1;have z1:=hzc.2.1;have z2:=hzc.2.2.1;have z3:=hzc.2.2.2.1;have z4:=hzc.2.2.2.2;have z5:=hf.cell;have hbb:=k3.trans hb;simp[Leaves,settle,results,Tryz.results92,go_sem,z0,z1,z2,z3,z4,z5]
    rw[HR.out]
    exact⟨rfl,hbb⟩

end Rx
end Go.Proofs.YtllbachngocmnaaGreatDoor
namespace Go.Proofs.YtllbachngocmnaaGreatDoor
namespace Ck
open Nd Ty

def needK (op:Int):Nat→List Data→Bool
 | _,[]=>false
 | i,t::ts=>(decide (opOf t=3)&&!(decide (op=21)&&decide (i=1))) || needK op (i+1) ts
def needN (n:Data):Bool:=decide (opOf n=6∨opOf n=7∨opOf n=8∨opOf n=33) || needK (opOf n) 0 (kidsOf n)
def okRex (s:List UInt8):Bool:=(Rx.parseV ⟨s.toArray⟩).isSome
def rexN (n:Data):Bool:=if opOf n=3 then !okRex (txtOf n) else if opOf n=21 then decide ((kidsOf n)[1]?.map opOf≠some 3) else false
def tooMany (p:List Data):Bool:=decide (8<(ascS (varsIn p)).length) || decide (8<(ascS (cellsIn p)).length)
def lastB (g:Data→Bool)(p:List Data):Bool:=match p.getLast? with|some t=>g t|none=>false
def bothB (p:List Data):Bool:=match p.getLast? with|some t=>decide (txtOf t∈varsIn p)&&decide (txtOf t∈cellsIn p)|none=>false
theorem last_snoc (g:Data→Bool)(p:List Data)(t:Data):lastB g (p++[t])=g t:=by simp[lastB]
theorem both_snoc (p:List Data)(t:Data):bothB (p++[t])=(decide (txtOf t∈varsIn (p++[t]))&&decide (txtOf t∈cellsIn (p++[t]))):=by simp[bothB]

theorem any_last (g:Data→Bool)(l:List Data):(∃ p,p≠[]∧p <+: l∧lastB g p=true)↔∃ t∈l,g t=true:=by
 constructor
 ·rintro⟨p,hp,⟨r,rfl⟩,h⟩
  unfold lastB at h
  cases hl:p.getLast? with
  | none=>rw[hl] at h;cases h
  | some t=>rw[hl] at h;exact⟨t,by simp[List.mem_of_getLast? hl],h⟩
 ·rintro⟨t,ht,h⟩
  obtain⟨a,b,rfl⟩:=List.append_of_mem ht
  exact⟨a++[t],by simp,⟨b,by simp⟩,by rw[last_snoc];exact h⟩

theorem nodup_len:∀ {l m:List (List UInt8)},l.Nodup→(∀ x∈l,x∈m)→l.length≤m.length
 | [],_,_,_=>by simp
 | a::l,m,hn,h=>by
  have hn':=List.nodup_cons.1 hn;have ha:=h a (by simp);have ih:=nodup_len (l:=l) (m:=m.erase a) hn'.2 fun x hx=>(List.mem_erase_of_ne (fun e=>by rw[e] at hx;exact hn'.1 hx)).2 (h x (by simp[hx]))
  have:=List.length_erase_of_mem ha
  have:=List.length_pos_of_mem ha
  simp only[List.length_cons];omega
theorem asc_le {ns ms:List (List UInt8)}(h:∀ x,x∈ns→x∈ms):(ascS ns).length≤(ascS ms).length:=by
 refine nodup_len (asc_nodup (ascS_asc ns)) fun x hx=>?_
 rw[ascS_mem] at hx ⊢
 exact h x hx
theorem any_many (l:List Data):(∃ p,p≠[]∧p <+: l∧tooMany p=true)↔tooMany l=true:=by
 constructor
 ·rintro⟨p,hp,⟨r,rfl⟩,h⟩
  unfold tooMany at h ⊢;have h1:=asc_le (ns:=varsIn p) (ms:=varsIn (p++r)) fun x hx=>by rw[varsIn_append];simp[hx]
  have h2:=asc_le (ns:=cellsIn p) (ms:=cellsIn (p++r)) fun x hx=>by rw[cellsIn_append];simp[hx]
  simp only[Bool.or_eq_true,decide_eq_true_eq] at h ⊢;omega
 ·intro h
  refine⟨l,fun e=>?_,List.prefix_refl _,h⟩
  subst e;simp[tooMany,varsIn,cellsIn,ascS] at h

def bothAll (l:List Data):Prop:=∃ x,x∈varsIn l∧x∈cellsIn l
theorem any_both (l:List Data):(∃ p,p≠[]∧p <+: l∧bothB p=true)↔bothAll l:=by
 constructor
 ·rintro⟨p,hp,⟨r,rfl⟩,h⟩
  unfold bothB at h
  cases hl:p.getLast? with
  | none=>rw[hl] at h;cases h
  | some t =>
   rw[hl] at h
   simp only[Bool.and_eq_true,decide_eq_true_eq] at h
   exact⟨txtOf t,by rw[varsIn_append];simp[h.1],by rw[cellsIn_append];simp[h.2]⟩
 ·rintro⟨x,h1,h2⟩
  induction hn:l.length generalizing l with
  | zero=>obtain rfl:l=[]:=List.length_eq_zero_iff.1 hn;simp[varsIn] at h1
  | succ n ih0 =>
   obtain⟨l,t,rfl⟩:∃ l' t,l=l'++[t]:=by
    rcases List.eq_nil_or_concat l with rfl|⟨l',t,rfl⟩
    ·simp at hn
    ·exact⟨l',t,by simp⟩
   have ih:=fun h1 h2=>ih0 l h1 h2 (by simpa using hn)
   by_cases hb:x∈varsIn l∧x∈cellsIn l
   ·obtain⟨p,a1,⟨r,a2⟩,a3⟩:=ih hb.1 hb.2
    exact⟨p,a1,⟨r++[t],by rw[← List.append_assoc,a2]⟩,a3⟩
   ·refine⟨l++[t],by simp,List.prefix_refl _,?_⟩
    have hx:txtOf t=x:=by
     have e1:=h1;have e2:=h2
     rw[varsIn_append,varsIn_one,List.mem_append] at e1
     rw[cellsIn_append,cellsIn_one,List.mem_append] at e2
     unfold varsT at e1;unfold cellsT at e2
     by_cases hv:x∈varsIn l
     ·have:x∉cellsIn l:=fun h=>hb ⟨hv,h⟩
      rcases e2 with e2|e2
      ·exact absurd e2 this
      ·split at e2
       ·exact (List.mem_singleton.1 e2).symm
       ·simp at e2
     ·rcases e1 with e1|e1
      ·exact absurd e1 hv
      ·split at e1
       ·exact (List.mem_singleton.1 e1).symm
       ·simp at e1
    rw[both_snoc,hx]
    simp[h1,h2]

end Ck
end Go.Proofs.YtllbachngocmnaaGreatDoor
namespace Go.Proofs.YtllbachngocmnaaGreatDoor
open Go.RowKit
namespace Rx

theorem rexs_at {w:World}:∀ {ts:List Data} {S:Nat→Prop} {xs:List Value} {i:Nat} {t:Data},RexsIs w ts S xs→ts[i]?=some t→∃ (S1:Nat→Prop) (a b c d u:Value),xs[i*5]?=some a∧xs[i*5+1]?=some b∧xs[i*5+2]?=some c∧xs[i*5+3]?=some d∧xs[i*5+4]?=some u∧RexIs w t S1 [a,b,c,d,u]∧∀ k,S1 k→S k
 | [],S,xs,i,t,h,hi=>by simp at hi
 | t'::ts,S,xs,0,t,h,hi=>by
  simp only[RexsIs] at h
  obtain⟨S1,S2,c1,c2,rfl,h1,_,h3,_⟩:=h
  simp at hi;subst hi;have hl:=rex_len h1
  match c1,hl with
  | [a,b,c,d,u],_=>exact⟨S1,a,b,c,d,u,by simp,by simp,by simp,by simp,by simp,h1,fun k hk=>(h3 k hk).1⟩
 | t'::ts,S,xs,i+1,t,h,hi=>by
  simp only[RexsIs] at h
  obtain⟨S1,S2,c1,c2,rfl,h1,h2,_,h4⟩:=h
  simp at hi;have hl:=rex_len h1
  obtain⟨S3,a,b,c,d,u,e1,e2,e3,e4,e5,h5,h6⟩:=rexs_at h2 hi
  have sh:∀ j,(c1++c2)[(i+1)*5+j]?=c2[i*5+j]?:=fun j=>by
   rw[List.getElem?_append_right (by omega)]
   congr 1
   omega
  exact⟨S3,a,b,c,d,u,(sh 0).trans e1,(sh 1).trans e2,(sh 2).trans e3,(sh 3).trans e4,(sh 4).trans e5,h5,fun k hk=>h4 k (h6 k hk)⟩

theorem row_cells {w:World}{B e n k cap:Nat}{ao:Option Addr}{xs:List Value}(ho:w.ownsRow B e 5 (.slice ao n cap) n xs)(hk:k<n):∃ g,ao=some ⟨g,0,none⟩∧g<w.heap.size∧∀ j x,xs[j]?=some x→w.cell? ⟨g,j,none⟩=some x:=by
 rcases ho.2 with ⟨h,hn⟩|⟨g,cap',cur,h,_⟩
 ·omega
 ·simp only[Value.slice.injEq] at h
  obtain⟨rfl,_,rfl⟩:=h
  refine⟨g,rfl,(ho.lt g rfl).2,fun j x hx=>?_⟩
  have:=ho.cells (g:=g) rfl j x hx
  have hadd:(⟨g,0,none⟩:Addr).add j=⟨g,j,none⟩:=by unfold Addr.add;split <;> simp_all
  rw[← hadd]
  exact this

end Rx
namespace Rx

theorem sMax (a b:Nat)(w:World):Calls Tryz.prog 119 #[.int .i64 a,.int .i64 b] w fun e w'=>e=.returned (.int .i64 (max a b:Nat))∧w'=w:=by
 by_cases h:b<a
 ·have h':(b:Int)<a:=by omega
  have HM:Hid (max a b=a):=by show _=_;omega
  go_enter Tryz.func119,Tryz.ntmps119
  go_wp2_with fail;go_ret
  exact⟨by rw[HM.out];rfl,rfl⟩
 ·have h':(a:Int)≤b:=by omega
  have HM:Hid (max a b=b):=by show _=_;omega
  clear h
  go_enter Tryz.func119,Tryz.ntmps119
  go_wp2_with fail;go_ret
  exact⟨by rw[HM.out];rfl,rfl⟩

def DeepOk (t:Data):Prop:=∀ (w:World) (S:Nat→Prop) (a b c d u:Value),RexIs w t S [a,b,c,d,u]→(∀ k,S k→k<w.heap.size) →
 Calls Tryz.prog 121 #[.agg #[a,b,c,d,u]] w fun e w'=>e=.returned (.int .i64 (dep t))∧Below w.heap.size w w'

theorem sDeep:∀ (n:Nat) (t:Data),dep t≤n→cnt t≤100000→DeepOk t:=by
 intro n
 induction n with
 | zero=>intro t hd _ w S a b c d u h;obtain⟨op,c,s,no,ks,rfl⟩:=rex_node h;rw[dep_nd] at hd;omega
 | succ n ih =>
  intro t hd hc w S a b c d u h hS
  obtain⟨op,cc,s,no,ks,rfl⟩:=rex_node h
  rw[dep_nd] at hd ⊢
  rw[cnt_nd] at hc
  rw[rex_nd] at h
  obtain⟨v,xs,he,ho,hg,hx⟩:=h
  simp at he
  obtain⟨rfl,rfl,rfl,rfl,rfl⟩:=he
  have hlen:=cnts_len ks;have hnI:(ks.length:Int)≤100000:=by omega
  have hdc:deps ks≤100000:=by have:=dep_cnt (nd op cc s no ks);rw[dep_nd,cnt_nd] at this;omega
  have HD:Hid (deps (ks.take ks.length)=deps ks):=by show _=_;rw[List.take_length]
  have HI:=fun i=>deps_le ks i;have hkids:∀ t∈ks,DeepOk t:=fun t ht=>ih t (by have:=deps_mem ht;omega) (by have:=cnts_mem ht;omega)
  obtain⟨ao,cap,rfl⟩:=owns_slice ho
  obtain⟨o1,ho1⟩:∃ o1,o1=Obj.cells #[.int .i64 op,.int .i64 cc,.string ⟨s.toArray⟩,.bool no,.slice ao ks.length cap] 103:=⟨_,rfl⟩
  have hb0:Below w.heap.size w (w.alloc o1):=(Below.refl _ w).alloc (Nat.le_refl _) _;have hv0:Var (w.alloc o1) w.heap.size (.int .i64 op) (.int .i64 cc) (.string ⟨s.toArray⟩) (.bool no) (.slice ao ks.length cap):=by rw[ho1];exact heap_alloc_last _ _
  subst ho1;clear ih
  go_enter Tryz.func121,Tryz.ntmps121
  go_wp2_with fail
  go_loopw [3,4] (fun mo i wr=>∃ k:Nat,k≤ks.length∧i=.int .i64 k∧mo=.int .i64 (deps (ks.take k))∧Below w.heap.size w wr∧Var wr w.heap.size (.int .i64 op) (.int .i64 cc) (.string ⟨s.toArray⟩) (.bool no) (.slice ao ks.length cap)) (fun _ i _=>ks.length - (intOf i).toNat)
  case atStart=>exact⟨0,Nat.zero_le _,rfl,rfl,hb0,hv0⟩
  case round =>
   obtain⟨k,hkn,rfl,rfl,hb,hV⟩:=hrel
   have v4:=hV.cell.2.2.2.2
   by_cases hkl:k<ks.length
   ·have hki:ks[k]?=some ks[k]:=List.getElem?_eq_getElem hkl
    obtain⟨T1,a,b,c,d,u,x0,x1,x2,x3,x4,hr1,hs1⟩:=rexs_at hx hki
    obtain⟨g,rfl,hg',hc'⟩:=row_cells ho hkl
    have cl:∀ j x,xs[j]?=some x→wr.cell? ⟨g,j,none⟩=some x:=fun j x hx=>(hb.cell (p:=⟨g,j,none⟩) hg').trans (hc' j x hx);have p0:=cl _ _ x0;have p1:=cl _ _ x1;have p2:=cl _ _ x2;have p3:=cl _ _ x3;have p4:=cl _ _ x4;have call:=hkids ks[k] (List.getElem_mem hkl) wr T1 a b c d u (rex_frame _ _ _ (fun j hj=>hb.block j (hS j (hs1 j hj).1)) hr1) (fun j hj=>Nat.lt_of_lt_of_le (hS j (hs1 j hj).1) hb.size);have hm:ks[k]∈ks:=List.getElem_mem hkl;have d1:=deps_mem hm;have HT2:Hid (deps (ks.take (k+1))=max (deps (ks.take k)) (dep ks[k])):=deps_take ks k ks[k] hki;have hi1:=HI k;have hd1:(dep ks[k]:Int)≤100000:=by omega
    have hi2:(deps (ks.take k):Int)≤100000:=by omega
    have hlt:=hV.lt;clear x0 x1 x2 x3 x4 hc' cl hr1 hs1 hx ho hki hkids hm d1 HI hi1 HD hdc hd hc;generalize dep ks[k]=D at *;generalize deps (ks.take k)=M at *
    go_wp2_with (first|(go_at_call 121;refine call.mono ?_;rintro e w2 ⟨rfl,hb2⟩)|(go_at_call 119;refine (sMax M D _).mono ?_;rintro e w3 ⟨rfl,hw⟩;have hw:=hw.symm;subst hw))
    go_roundw
    case rel=>exact⟨k+1,by omega,by go_num,by rw[HT2.out],hb.trans (hb2.mono hb.size),hV.kept (hb2.block _ hlt)⟩
    case measure=>simp[intOf];omega
   ·obtain rfl:k=ks.length:=by omega
    have hi2:=HI ks.length;have hi3:(deps (ks.take ks.length):Int)≤100000:=by omega
    clear HI hi2 hx ho hkids;go_wp2_with fail;go_ret
    exact⟨by rw[← HD.out];rfl,hb⟩

end Rx
namespace Rx

structure Cs (p:Nat)(s:ByteArray)(i:Int)(bad:Bool)(w:World):Prop where
 text:w.cell? ⟨p,0,none⟩=some (.string s)
 pos:w.cell? ⟨p,1,none⟩=some (.int .i64 i)
 bad:w.cell? ⟨p,2,none⟩=some (.bool bad)
 fr1:w.frozen? ⟨p,1,none⟩=false
 fr2:w.frozen? ⟨p,2,none⟩=false

theorem Cs.lt {p:Nat}{s:ByteArray}{i:Int}{b:Bool}{w:World}(h:Cs p s i b w):p<w.heap.size:=World.block_lt_of_cell? w _ h.text
theorem Cs.kept {p:Nat}{s:ByteArray}{i:Int}{b:Bool}{w w':World}(h:Cs p s i b w)(h1:w'.heap[p]?=w.heap[p]?):Cs p s i b w' :=
 ⟨(World.cell?_of_block h1).trans h.text,(World.cell?_of_block h1).trans h.pos,(World.cell?_of_block h1).trans h.bad,(World.frozen?_of_block h1).trans h.fr1,(World.frozen?_of_block h1).trans h.fr2⟩
theorem Cs.grown {p:Nat}{s:ByteArray}{i:Int}{b:Bool}{w w':World}{row:Option Nat}(h:Cs p s i b w)(hg:w.grownBy w' row)(h1:row≠some p):Cs p s i b w':=h.kept (hg.block _ h.lt fun e=>h1 e.symm)
theorem Cs.drewN {p:Nat}{s:ByteArray}{i:Int}{b:Bool}{w:World}(h:Cs p s i b w)(n:Nat):Cs p s i b (w.drewN n):=⟨h.text,h.pos,h.bad,h.fr1,h.fr2⟩
theorem Cs.alloc {p:Nat}{s:ByteArray}{i:Int}{b:Bool}{w:World}(h:Cs p s i b w)(o:Obj):Cs p s i b (w.alloc o):=h.grown (World.grownBy_alloc _ _ none) (by simp)
theorem Cs.set {p:Nat}{s:ByteArray}{i:Int}{b:Bool}{w:World}(h:Cs p s i b w)(j:Int):Cs p s j b (w.setCell ⟨p,1,none⟩ (.int .i64 j)):=by
 refine⟨?_,?_,?_,?_,?_⟩
 ·rw[World.cell?_setCell_other _ _ _ _ (by simp)];exact h.text
 ·exact World.cell?_setCell_same _ _ _ h.pos
 ·rw[World.cell?_setCell_other _ _ _ _ (by simp)];exact h.bad
 ·simpa using h.fr1
 ·simpa using h.fr2
theorem Cs.spoil {p:Nat}{s:ByteArray}{i:Int}{b:Bool}{w:World}(h:Cs p s i b w)(x:Bool):Cs p s i x (w.setCell ⟨p,2,none⟩ (.bool x)):=by
 refine⟨?_,?_,?_,?_,?_⟩
 ·rw[World.cell?_setCell_other _ _ _ _ (by simp)];exact h.text
 ·rw[World.cell?_setCell_other _ _ _ _ (by simp)];exact h.pos
 ·exact World.cell?_setCell_same _ _ _ h.bad
 ·simpa using h.fr1
 ·simpa using h.fr2

theorem sNow {p:Nat}{s:ByteArray}{i:Nat}{w:World}(h:Cs p s i false w)(hi:i≤s.size)(b:Nat)(c:Int)(hb:b<256)(hc:c=b):
  Calls Tryz.prog 162 #[.pointer (some ⟨p,0,none⟩),.int .u8 c] w fun e w'=>e=.returned (.bool (decide (gOf s i=b)))∧∃ n,w'=w.drewN n:=by
 subst hc;have h1:=h.text;have h2:=h.pos;have h3:=h.bad;rcases Nat.lt_or_ge i s.size with hq|hq
 ·have H:Hid (gOf s i=s[i].toNat):=gOf_in hq
  go_enter Tryz.func162,Tryz.ntmps162
  go_wp2
  go_quiet (fail)
  go_wp2
  go_ret
  exact⟨by rw[H.out];exact congrArg (fun x=>Ending.returned (Value.bool x)) (nat_eqb _ _),_,rfl⟩
 ·have e1:gOf s i=256:=gOf_out hq;have e2:decide (256=b)=false:=decide_eq_false (by omega);have e3:decide ((i:Int)<s.size)=false:=decide_eq_false (by omega);have e4:decide (i<s.size)=false:=decide_eq_false (by omega);have e5:¬ i<s.size:=by omega
  rw[e1,e2]
  clear e1 e2 hq
  go_enter Tryz.func162,Tryz.ntmps162
  go_wp2
  go_quiet (fail)
  go_wp2
  go_ret
  exact⟨rfl,_,rfl⟩

theorem sNowBad {p:Nat}{s:ByteArray}{i:Int}{w:World}(h:Cs p s i true w)(c:Int):
  Calls Tryz.prog 162 #[.pointer (some ⟨p,0,none⟩),.int .u8 c] w fun e w'=>e=.returned (.bool false)∧∃ n,w'=w.drewN n:=by
 have h3:=h.bad
 go_enter Tryz.func162,Tryz.ntmps162
 go_wp2
 go_quiet (fail)
 go_wp2
 go_ret
 exact⟨rfl,_,rfl⟩

end Rx
namespace Sp
open St (Vl encV)
open Nd Ty Cm
open Pg (RdT)
open Oc (hold Blk)

structure Two (X Y:Fx)(L M:List Vl)(w:World):Prop where
 a:Wk X L w
 b:Wk Y M w
 hW:Y.W=X.W
 ne:X.p≠Y.p
 ab:¬ RowAt X w Y.p
 ba:¬ RowAt Y w X.p
 rows:∀ k,RowAt X w k→¬ RowAt Y w k
theorem Two.symm {X Y:Fx}{L M:List Vl}{w:World}(h:Two X Y L M w):Two Y X M L w:=⟨h.b,h.a,h.hW.symm,h.ne.symm,h.ba,h.ab,fun k hy hx=>h.rows k hx hy⟩
theorem Two.left {X Y:Fx}{L L' M:List Vl}{w w':World}(h:Two X Y L M w)(hw:Wk X L' w')(hc:Ch X w w'):Two X Y L' M w':=by
 obtain⟨ao,cap,h1,h2⟩:=h.b.blk
 have q2:=h1.cell 2 rfl;have hy:=hc.own Y.p h1.lt h.ne.symm h.ab;have hr:∀ k,RowAt Y w k→w'.heap[k]?=w.heap[k]?∧¬ RowAt X w' k:=fun k hk=>by
  have hk':=(rowAt_is q2).1 hk;exact hc.own k (h2.lt k hk').2 (fun e=>h.ba (e ▸ hk)) (fun e=>h.rows k e hk)
 exact⟨hw,⟨by rw[h.hW];exact hw.below,h.b.hp,⟨ao,cap,hy.1.trans h1,owns_same h2 fun g hg=>(hr g ((rowAt_is q2).2 hg)).1⟩,h.b.vs,h.b.cs,h.b.vn,h.b.cn⟩,h.hW,h.ne,hy.2,fun e=>h.ba ((rowAt_same hy.1).1 e),fun k hx hy'=>(hr k ((rowAt_same hy.1).1 hy')).2 hx⟩
structure Bx (X Y:Fx)(w:World)(b:Nat × TypeId × List Value):Prop where
 blk:Blk b.2.1 w b.1 b.2.2
 nx:b.1≠X.p∧¬ RowAt X w b.1
 ny:b.1≠Y.p∧¬ RowAt Y w b.1
theorem Bx.symm {X Y:Fx}{w:World}{b:Nat × TypeId × List Value}(h:Bx X Y w b):Bx Y X w b:=⟨h.blk,h.ny,h.nx⟩
theorem Bx.left {X Y:Fx}{L M:List Vl}{w w':World}{b:Nat × TypeId × List Value}(h:Bx X Y w b)(hT:Two X Y L M w)(hc:Ch X w w'):Bx X Y w' b:=by
 obtain⟨ao,cap,h1,h2⟩:=hT.b.blk
 have hy:=hc.own Y.p h1.lt hT.ne.symm hT.ab;have hb:=hc.own b.1 h.blk.lt h.nx.1 h.nx.2
 exact⟨hb.1.trans h.blk,⟨h.nx.1,hb.2⟩,⟨h.ny.1,fun e=>h.ny.2 ((rowAt_same hy.1).1 e)⟩⟩
structure AtT (X Y:Fx)(bxs:List (Nat × TypeId × List Value))(L M:List Vl)(w:World):Prop where
 two:Two X Y L M w
 bx:∀ b∈bxs,Bx X Y w b
theorem AtT.symm {X Y:Fx}{bxs:List (Nat × TypeId × List Value)}{L M:List Vl}{w:World}(h:AtT X Y bxs L M w):AtT Y X bxs M L w:=⟨h.two.symm,fun b hb=>(h.bx b hb).symm⟩
theorem AtT.left {X Y:Fx}{bxs:List (Nat × TypeId × List Value)}{L L' M:List Vl}{w w':World}(h:AtT X Y bxs L M w)(hw:Wk X L' w')(hc:Ch X w w'):AtT X Y bxs L' M w':=⟨h.two.left hw hc,fun b hb=>(h.bx b hb).left h.two hc⟩
theorem AtT.right {X Y:Fx}{bxs:List (Nat × TypeId × List Value)}{L M M':List Vl}{w w':World}(h:AtT X Y bxs L M w)(hw:Wk Y M' w')(hc:Ch Y w w'):AtT X Y bxs L M' w':=(h.symm.left hw hc).symm
theorem AtT.later {X Y:Fx}{bxs:List (Nat × TypeId × List Value)}{L M:List Vl}{w w':World}(h:AtT X Y bxs L M w)(hb:Below w.heap.size w w'):AtT X Y bxs L M w':=h.left (h.two.a.later hb) (ch_below h.two.a.lt hb)
theorem row_lt {X:Fx}{L:List Vl}{w:World}(h:Wk X L w){k:Nat}(hr:RowAt X w k):k<w.heap.size:=by
 obtain⟨ao,cap,h1,h2⟩:=h.blk
 exact (h2.lt k ((rowAt_is (h1.cell 2 rfl)).1 hr)).2
theorem AtT.more {X Y:Fx}{bxs:List (Nat × TypeId × List Value)}{L M:List Vl}{w:World}(h:AtT X Y bxs L M w)(T:TypeId)(xs:List Value):AtT X Y ((w.heap.size,T,xs)::bxs) L M (w.alloc (.cells xs.toArray T)):=by
 have hb:Below w.heap.size w (w.alloc (.cells xs.toArray T)):=(Below.refl _ w).alloc (Nat.le_refl _) _;have h':=h.later hb
 refine⟨h'.two,fun b hb'=>?_⟩
 rcases List.mem_cons.1 hb' with rfl|hm
 ·have ha:=h.two.a.lt;have hbb:=h.two.b.lt
  refine⟨Blk.new _ _ _,⟨by show w.heap.size≠X.p;omega,fun hr=>?_⟩,⟨by show w.heap.size≠Y.p;omega,fun hr=>?_⟩⟩
  ·have:=row_lt h.two.a ((rowAt_same (hb.block X.p ha)).1 hr);simp at this
  ·have:=row_lt h.two.b ((rowAt_same (hb.block Y.p hbb)).1 hr);simp at this
 ·exact h'.bx b hm
theorem AtT.fewer {X Y:Fx}{bxs bys:List (Nat × TypeId × List Value)}{L M:List Vl}{w:World}(h:AtT X Y bxs L M w)(hs:∀ b∈bys,b∈bxs):AtT X Y bys L M w:=⟨h.two,fun b hb=>h.bx b (hs b hb)⟩
theorem AtT.box {X Y:Fx}{bxs:List (Nat × TypeId × List Value)}{L M:List Vl}{w:World}(h:AtT X Y bxs L M w){b:Nat × TypeId × List Value}(hb:b∈bxs)(j:Nat){x:Value}(hx:b.2.2[j]?=some x):w.cell? ⟨b.1,j,none⟩=some x:=(h.bx b hb).blk.cell j hx
theorem AtT.cell {X Y:Fx}{bxs:List (Nat × TypeId × List Value)}{L M:List Vl}{w:World}(h:AtT X Y bxs L M w){g j:Nat}{x:Value}(hx:X.W.cell? ⟨g,j,none⟩=some x):w.cell? ⟨g,j,none⟩=some x:=(h.two.a.below.cell (World.block_lt_of_cell? _ _ hx)).trans hx
end Sp
end Go.Proofs.YtllbachngocmnaaGreatDoor
