/-
  A node is compiled as its places say: the program, by induction.
-/
import Derived.Test.YtllbachngocmnaaGreatDoorP05
import Derived.Test.YtllbachngocmnaaGreatDoorP08
import Derived.Test.YtllbachngocmnaaGreatDoorP09
namespace Go.Proofs.YtllbachngocmnaaGreatDoor
open Go.RowKit
namespace Cm
open St (Vl encV)
open Nd Ty
open Oc (hold Blk)

theorem ran_pre {X:Fx}{L:List Vl}{G:List Nat}{S:Nat→Prop}{w w1 w':World}{e:Ending}(hc:Ch X w w1)(h:RanS X L G S w1 e w'):RanS X L G S w e w':=by
 rcases h with ⟨rfl,G',h1,h2,h3⟩|h
 ·exact .inl ⟨rfl,G',h1,h2,hc.trans h3⟩
 ·exact .inr h

set_option maxRecDepth 100000 in
theorem via29 {X:Fx}{L ls:List Vl}{G:List Nat}{S:Nat→Prop}{w:World}{n:Int}{s:List UInt8}{ao:Option Addr}{K cap:Nat}(hW:Wk X ls G w)(hC:∀ o,Calls Tryz.prog 100 #[.pointer (some ⟨X.p,0,none⟩),.agg #[.int .i64 29,.int .i64 n,.string ⟨s.toArray⟩,.slice ao K cap]] (w.alloc o) fun e w'=>RanS X L G S (w.alloc o) e w'):
  Calls Tryz.prog 101 #[.pointer (some ⟨X.p,0,none⟩),.agg #[.int .i64 29,.int .i64 n,.string ⟨s.toArray⟩,.slice ao K cap]] w fun e w'=>RanS X L G S w e w':=by
 have HC:Hid (∀ o,Ch X w (w.alloc o)):=fun o=>ch_below hW.lt ((Below.refl _ _).alloc (Nat.le_refl _) o);have CALL:Hid _:=hC;clear hW hC
 go_enter Tryz.func101,Tryz.ntmps101
 go_wp2_with (go_at_call 100;refine hold ?_)
 refine Calls.mono (CALL.out _) ?_;rintro e w2 (⟨rfl,G2,j1,j2,j3⟩|⟨rfl,hn,hB⟩)
 ·have HR:Hid (RanS X L G S w (.returned (.tuple #[])) w2):=ran_pre (HC.out _) (.inl ⟨rfl,G2,j1,j2,j3⟩);clear HC CALL j1 j2 j3;go_wp2_with fail;refine bodyPost_end (v:=.tuple #[]) ?_ rfl HR.out;simp[results,Tryz.results101]
 ·clear HC CALL;go_wp2_with fail
  exact⟨rfl,.inr ⟨rfl,hn,hB⟩⟩

set_option maxRecDepth 100000 in
theorem via30 {X:Fx}{L ls:List Vl}{G:List Nat}{S:Nat→Prop}{w:World}{n:Int}{s:List UInt8}{ao:Option Addr}{K cap:Nat}(hW:Wk X ls G w)(hC:∀ o,Calls Tryz.prog 141 #[.pointer (some ⟨X.p,0,none⟩),.slice ao K cap] (w.alloc o) fun e w'=>RanS X L G S (w.alloc o) e w'):
  Calls Tryz.prog 101 #[.pointer (some ⟨X.p,0,none⟩),.agg #[.int .i64 30,.int .i64 n,.string ⟨s.toArray⟩,.slice ao K cap]] w fun e w'=>RanS X L G S w e w':=by
 have HC:Hid (∀ o,Ch X w (w.alloc o)):=fun o=>ch_below hW.lt ((Below.refl _ _).alloc (Nat.le_refl _) o);have CALL:Hid _:=hC;clear hW hC
 go_enter Tryz.func101,Tryz.ntmps101
 go_wp2_with (go_at_call 141;refine hold ?_)
 refine Calls.mono (CALL.out _) ?_;rintro e w2 (⟨rfl,G2,j1,j2,j3⟩|⟨rfl,hn,hB⟩)
 ·have HR:Hid (RanS X L G S w (.returned (.tuple #[])) w2):=ran_pre (HC.out _) (.inl ⟨rfl,G2,j1,j2,j3⟩);clear HC CALL j1 j2 j3;go_wp2_with fail;refine bodyPost_end (v:=.tuple #[]) ?_ rfl HR.out;simp[results,Tryz.results101]
 ·clear HC CALL;go_wp2_with fail
  exact⟨rfl,.inr ⟨rfl,hn,hB⟩⟩

set_option maxRecDepth 100000 in
theorem via31 {X:Fx}{L ls:List Vl}{G:List Nat}{S:Nat→Prop}{w:World}{n:Int}{s:List UInt8}{ao:Option Addr}{K cap:Nat}(hW:Wk X ls G w)(hC:∀ o,Calls Tryz.prog 142 #[.pointer (some ⟨X.p,0,none⟩),.agg #[.int .i64 31,.int .i64 n,.string ⟨s.toArray⟩,.slice ao K cap]] (w.alloc o) fun e w'=>RanS X L G S (w.alloc o) e w'):
  Calls Tryz.prog 101 #[.pointer (some ⟨X.p,0,none⟩),.agg #[.int .i64 31,.int .i64 n,.string ⟨s.toArray⟩,.slice ao K cap]] w fun e w'=>RanS X L G S w e w':=by
 have HC:Hid (∀ o,Ch X w (w.alloc o)):=fun o=>ch_below hW.lt ((Below.refl _ _).alloc (Nat.le_refl _) o);have CALL:Hid _:=hC;clear hW hC
 go_enter Tryz.func101,Tryz.ntmps101
 go_wp2_with (go_at_call 142;refine hold ?_)
 refine Calls.mono (CALL.out _) ?_;rintro e w2 (⟨rfl,G2,j1,j2,j3⟩|⟨rfl,hn,hB⟩)
 ·have HR:Hid (RanS X L G S w (.returned (.tuple #[])) w2):=ran_pre (HC.out _) (.inl ⟨rfl,G2,j1,j2,j3⟩);clear HC CALL j1 j2 j3;go_wp2_with fail;refine bodyPost_end (v:=.tuple #[]) ?_ rfl HR.out;simp[results,Tryz.results101]
 ·clear HC CALL;go_wp2_with fail
  exact⟨rfl,.inr ⟨rfl,hn,hB⟩⟩

set_option maxRecDepth 100000 in
theorem via32 {X:Fx}{L ls:List Vl}{G:List Nat}{S:Nat→Prop}{w:World}{n:Int}{s:List UInt8}{ao:Option Addr}{K cap:Nat}(hW:Wk X ls G w)(hC:∀ o,Calls Tryz.prog 143 #[.pointer (some ⟨X.p,0,none⟩),.agg #[.int .i64 32,.int .i64 n,.string ⟨s.toArray⟩,.slice ao K cap]] (w.alloc o) fun e w'=>RanS X L G S (w.alloc o) e w'):
  Calls Tryz.prog 101 #[.pointer (some ⟨X.p,0,none⟩),.agg #[.int .i64 32,.int .i64 n,.string ⟨s.toArray⟩,.slice ao K cap]] w fun e w'=>RanS X L G S w e w':=by
 have HC:Hid (∀ o,Ch X w (w.alloc o)):=fun o=>ch_below hW.lt ((Below.refl _ _).alloc (Nat.le_refl _) o);have CALL:Hid _:=hC;clear hW hC
 go_enter Tryz.func101,Tryz.ntmps101
 go_wp2_with (go_at_call 143;refine hold ?_)
 refine Calls.mono (CALL.out _) ?_;rintro e w2 (⟨rfl,G2,j1,j2,j3⟩|⟨rfl,hn,hB⟩)
 ·have HR:Hid (RanS X L G S w (.returned (.tuple #[])) w2):=ran_pre (HC.out _) (.inl ⟨rfl,G2,j1,j2,j3⟩);clear HC CALL j1 j2 j3;go_wp2_with fail;refine bodyPost_end (v:=.tuple #[]) ?_ rfl HR.out;simp[results,Tryz.results101]
 ·clear HC CALL;go_wp2_with fail
  exact⟨rfl,.inr ⟨rfl,hn,hB⟩⟩

set_option maxRecDepth 100000 in
theorem via24 {X:Fx}{L ls:List Vl}{G:List Nat}{S:Nat→Prop}{w:World}{n:Int}{s:List UInt8}{ao:Option Addr}{K cap:Nat}(hW:Wk X ls G w)(hC:∀ o,Calls Tryz.prog 144 #[.pointer (some ⟨X.p,0,none⟩),.agg #[.int .i64 24,.int .i64 n,.string ⟨s.toArray⟩,.slice ao K cap]] (w.alloc o) fun e w'=>RanS X L G S (w.alloc o) e w'):
  Calls Tryz.prog 101 #[.pointer (some ⟨X.p,0,none⟩),.agg #[.int .i64 24,.int .i64 n,.string ⟨s.toArray⟩,.slice ao K cap]] w fun e w'=>RanS X L G S w e w':=by
 have HC:Hid (∀ o,Ch X w (w.alloc o)):=fun o=>ch_below hW.lt ((Below.refl _ _).alloc (Nat.le_refl _) o);have CALL:Hid _:=hC;clear hW hC
 go_enter Tryz.func101,Tryz.ntmps101
 go_wp2_with (go_at_call 144;refine hold ?_)
 refine Calls.mono (CALL.out _) ?_;rintro e w2 (⟨rfl,G2,j1,j2,j3⟩|⟨rfl,hn,hB⟩)
 ·have HR:Hid (RanS X L G S w (.returned (.tuple #[])) w2):=ran_pre (HC.out _) (.inl ⟨rfl,G2,j1,j2,j3⟩);clear HC CALL j1 j2 j3;go_wp2_with fail;refine bodyPost_end (v:=.tuple #[]) ?_ rfl HR.out;simp[results,Tryz.results101]
 ·clear HC CALL;go_wp2_with fail
  exact⟨rfl,.inr ⟨rfl,hn,hB⟩⟩

set_option maxRecDepth 100000 in
theorem via25 {X:Fx}{L ls:List Vl}{G:List Nat}{S:Nat→Prop}{w:World}{n:Int}{s:List UInt8}{ao:Option Addr}{K cap:Nat}(hW:Wk X ls G w)(hC:∀ o,Calls Tryz.prog 145 #[.pointer (some ⟨X.p,0,none⟩),.agg #[.int .i64 25,.int .i64 n,.string ⟨s.toArray⟩,.slice ao K cap]] (w.alloc o) fun e w'=>RanS X L G S (w.alloc o) e w'):
  Calls Tryz.prog 101 #[.pointer (some ⟨X.p,0,none⟩),.agg #[.int .i64 25,.int .i64 n,.string ⟨s.toArray⟩,.slice ao K cap]] w fun e w'=>RanS X L G S w e w':=by
 have HC:Hid (∀ o,Ch X w (w.alloc o)):=fun o=>ch_below hW.lt ((Below.refl _ _).alloc (Nat.le_refl _) o);have CALL:Hid _:=hC;clear hW hC
 go_enter Tryz.func101,Tryz.ntmps101
 go_wp2_with (go_at_call 145;refine hold ?_)
 refine Calls.mono (CALL.out _) ?_;rintro e w2 (⟨rfl,G2,j1,j2,j3⟩|⟨rfl,hn,hB⟩)
 ·have HR:Hid (RanS X L G S w (.returned (.tuple #[])) w2):=ran_pre (HC.out _) (.inl ⟨rfl,G2,j1,j2,j3⟩);clear HC CALL j1 j2 j3;go_wp2_with fail;refine bodyPost_end (v:=.tuple #[]) ?_ rfl HR.out;simp[results,Tryz.results101]
 ·clear HC CALL;go_wp2_with fail
  exact⟨rfl,.inr ⟨rfl,hn,hB⟩⟩

set_option maxRecDepth 100000 in
theorem via26 {X:Fx}{L ls:List Vl}{G:List Nat}{S:Nat→Prop}{w:World}{n:Int}{s:List UInt8}{ao:Option Addr}{K cap:Nat}(hW:Wk X ls G w)(hC:∀ o,Calls Tryz.prog 146 #[.pointer (some ⟨X.p,0,none⟩),.agg #[.int .i64 26,.int .i64 n,.string ⟨s.toArray⟩,.slice ao K cap],.int .i64 4,.int .i64 7] (w.alloc o) fun e w'=>RanS X L G S (w.alloc o) e w'):
  Calls Tryz.prog 101 #[.pointer (some ⟨X.p,0,none⟩),.agg #[.int .i64 26,.int .i64 n,.string ⟨s.toArray⟩,.slice ao K cap]] w fun e w'=>RanS X L G S w e w':=by
 have HC:Hid (∀ o,Ch X w (w.alloc o)):=fun o=>ch_below hW.lt ((Below.refl _ _).alloc (Nat.le_refl _) o);have CALL:Hid _:=hC;clear hW hC
 go_enter Tryz.func101,Tryz.ntmps101
 go_wp2_with (go_at_call 146;refine hold ?_)
 refine Calls.mono (CALL.out _) ?_;rintro e w2 (⟨rfl,G2,j1,j2,j3⟩|⟨rfl,hn,hB⟩)
 ·have HR:Hid (RanS X L G S w (.returned (.tuple #[])) w2):=ran_pre (HC.out _) (.inl ⟨rfl,G2,j1,j2,j3⟩);clear HC CALL j1 j2 j3;go_wp2_with fail;refine bodyPost_end (v:=.tuple #[]) ?_ rfl HR.out;simp[results,Tryz.results101]
 ·clear HC CALL;go_wp2_with fail
  exact⟨rfl,.inr ⟨rfl,hn,hB⟩⟩

set_option maxRecDepth 100000 in
theorem via27 {X:Fx}{L ls:List Vl}{G:List Nat}{S:Nat→Prop}{w:World}{n:Int}{s:List UInt8}{ao:Option Addr}{K cap:Nat}(hW:Wk X ls G w)(hC:∀ o,Calls Tryz.prog 146 #[.pointer (some ⟨X.p,0,none⟩),.agg #[.int .i64 27,.int .i64 n,.string ⟨s.toArray⟩,.slice ao K cap],.int .i64 5,.int .i64 8] (w.alloc o) fun e w'=>RanS X L G S (w.alloc o) e w'):
  Calls Tryz.prog 101 #[.pointer (some ⟨X.p,0,none⟩),.agg #[.int .i64 27,.int .i64 n,.string ⟨s.toArray⟩,.slice ao K cap]] w fun e w'=>RanS X L G S w e w':=by
 have HC:Hid (∀ o,Ch X w (w.alloc o)):=fun o=>ch_below hW.lt ((Below.refl _ _).alloc (Nat.le_refl _) o);have CALL:Hid _:=hC;clear hW hC
 go_enter Tryz.func101,Tryz.ntmps101
 go_wp2_with (go_at_call 146;refine hold ?_)
 refine Calls.mono (CALL.out _) ?_;rintro e w2 (⟨rfl,G2,j1,j2,j3⟩|⟨rfl,hn,hB⟩)
 ·have HR:Hid (RanS X L G S w (.returned (.tuple #[])) w2):=ran_pre (HC.out _) (.inl ⟨rfl,G2,j1,j2,j3⟩);clear HC CALL j1 j2 j3;go_wp2_with fail;refine bodyPost_end (v:=.tuple #[]) ?_ rfl HR.out;simp[results,Tryz.results101]
 ·clear HC CALL;go_wp2_with fail
  exact⟨rfl,.inr ⟨rfl,hn,hB⟩⟩

set_option maxHeartbeats 1000000 in
set_option maxRecDepth 100000 in
theorem iFits {X:Fx}{n:Int}{s:List UInt8}{k0 k1:Data}(hk0:NodeOk X k0){ls:List Vl}{G:List Nat}{w:World}{S:Nat→Prop}{a b c u:Value}(hW:Wk X ls G w)(hN:NodeIs X.W (nd 21 n s [k0,k1]) S [a,b,c,u])(hG:∀ g∈G,¬ S g):
  Calls Tryz.prog 101 #[.pointer (some ⟨X.p,0,none⟩),.agg #[a,b,c,u]] w fun e w'=>RanS X (ls++(nodeP X.iv X.ic k0 ls.length++[(24,0,tx (txtOf k1))])) G S w e w':=by
 obtain⟨g,cap,x0,x1,x2,x3,y0,y1,y2,y3,S0,S1,T⟩:=kids2 hN
 have hv:=T.val;simp at hv
 obtain⟨rfl,rfl,rfl,rfl⟩:=hv
 obtain⟨ao0,cap0,rfl,rfl,rfl,rfl⟩:=node_vals T.k0
 obtain⟨ao1,cap1,rfl,rfl,rfl,rfl⟩:=node_vals T.k1
 obtain⟨-,hgl,-,c0,c1,c2,c3,d0,d1,d2,d3,i0,i1,t0,t1⟩:=T
 obtain⟨fa,hfa⟩:=hid_eq (nodeP X.iv X.ic k0 ls.length)
 rw[← hfa.out]
 have HA:Hid (At X w [(nb w 21 n s g 2 cap)] G S S ls (w.alloc (.cells #[.int .i64 21,.int .i64 n,.string ⟨s.toArray⟩,.slice (some ⟨g,0,none⟩) 2 cap] 51))):=(at_none hW hG (R:=S) (fun _ h=>h)).more _ _;have c0':=HA.out.wk c0;have c1':=HA.out.wk c1;have c2':=HA.out.wk c2;have c3':=HA.out.wk c3;clear hW hN hG
 go_enter Tryz.func101,Tryz.ntmps101
 go_wp2_with (go_at_call 101;refine hold ?_)
 refine Calls.mono (at_node (R':=fun _=>False) (x:=fa) hk0 HA.out i0 (fun k hk=>⟨(t0 k hk).1,(t0 k hk).1,id⟩) (fun k hk=>hk.elim) hfa.out) ?_;clear c0' c1' c2' c3';rintro e w1 (⟨rfl,hn,hB⟩|⟨rfl,hK⟩)
 ·clear HA;go_wp2_with fail
  exact⟨rfl,.inr ⟨rfl,by simp only[List.length_append,List.length_cons,List.length_nil] at hn ⊢;omega,hB⟩⟩
 have H1:Hid (At X w [(nb w 21 n s g 2 cap)] G S (fun _=>False) (ls++fa) w1):=hK;have p0:=H1.out.box (b:=(nb w 21 n s g 2 cap)) (by simp) 3 rfl;have d2':=H1.out.wk d2;clear hK HA
 go_wp2_with (go_at_call 59;refine hold ?_)
 refine Calls.mono (at_put H1.out 24 0 (tx (txtOf k1))) ?_;rintro e w2 (⟨rfl,hn,hB⟩|⟨rfl,hK⟩)
 ·clear H1 p0 d2';go_wp2_with fail
  exact⟨rfl,.inr ⟨rfl,by simp only[List.length_append,List.length_cons,List.length_nil] at hn ⊢;omega,hB⟩⟩
 have H2:Hid (At X w [(nb w 21 n s g 2 cap)] G S (fun _=>False) (ls++fa++[((24,0,tx (txtOf k1)):Vl)]) w2):=hK;clear hK H1 p0 d2';go_wp2_with fail;refine bodyPost_end (v:=.tuple #[]) ?_ rfl (H2.out.ends (by simp));simp[results,Tryz.results101]

set_option maxHeartbeats 1000000 in
set_option maxRecDepth 100000 in
theorem iPlain {X:Fx}(hT:Tab X){op n:Int}{s:List UInt8}{ks:List Data}(hop:WordOp op)(hk:NodesOk X ks)(hn:ks.length≤1048577){ls:List Vl}{G:List Nat}{w:World}{S:Nat→Prop}{a b c u:Value}(hW:Wk X ls G w)(hN:NodeIs X.W (nd op n s ks) S [a,b,c,u])(hG:∀ g∈G,¬ S g):
  Calls Tryz.prog 101 #[.pointer (some ⟨X.p,0,none⟩),.agg #[a,b,c,u]] w fun e w'=>RanS X (ls++(seqOf X.iv X.ic ks ls.length++[wordV X.iv X.ic op n s ks.length])) G S w e w':=by
 obtain⟨ao,cap,xs,he,q1,q2,q3⟩:=node_parts hN
 simp at he
 obtain⟨rfl,rfl,rfl,rfl⟩:=he
 obtain⟨fa,hfa⟩:=hid_eq (seqOf X.iv X.ic ks ls.length)
 obtain⟨xw,hxw⟩:=hid_eq (wordV X.iv X.ic op n s ks.length)
 rw[← hfa.out,← hxw.out]
 have hop':=hop;unfold WordOp at hop';have n1:¬ op=29:=by omega
 have n2:¬ op=30:=by omega
 have n3:¬ op=31:=by omega
 have n4:¬ op=32:=by omega
 have n5:¬ op=24:=by omega
 have n6:¬ op=25:=by omega
 have n7:¬ op=26:=by omega
 have n8:¬ op=27:=by omega
 have n9:¬ op=21:=by omega
 have HA:Hid (At X w [(w.heap.size,51,[.int .i64 op,.int .i64 n,.string ⟨s.toArray⟩,.slice ao ks.length cap])] G S S ls (w.alloc (.cells #[.int .i64 op,.int .i64 n,.string ⟨s.toArray⟩,.slice ao ks.length cap] 51))):=(at_none hW hG (R:=S) (fun _ h=>h)).more _ _;clear hW hN hG hop'
 go_enter Tryz.func101,Tryz.ntmps101
 go_wp2_with (go_at_call 140;refine hold ?_)
 refine Calls.mono (at_nodes (R':=fun _=>False) (x:=fa) hk HA.out q1 q3 (fun k hk=>⟨hk.1,hk.1,id⟩) (fun k hk=>hk.elim) hfa.out) ?_;rintro e w1 (⟨rfl,hn',hB⟩|⟨rfl,hK⟩)
 ·clear HA;go_wp2_with fail
  exact⟨rfl,.inr ⟨rfl,by simp only[List.length_append,List.length_cons,List.length_nil] at hn' ⊢;omega,hB⟩⟩
 have H1:Hid (At X w [(w.heap.size,51,[.int .i64 op,.int .i64 n,.string ⟨s.toArray⟩,.slice ao ks.length cap])] G S (fun _=>False) (ls++fa) w1):=hK;have p0:=H1.out.box (b:=(w.heap.size,51,[.int .i64 op,.int .i64 n,.string ⟨s.toArray⟩,.slice ao ks.length cap])) (by simp) 0 rfl;have p1:=H1.out.box (b:=(w.heap.size,51,[.int .i64 op,.int .i64 n,.string ⟨s.toArray⟩,.slice ao ks.length cap])) (by simp) 1 rfl;have p2:=H1.out.box (b:=(w.heap.size,51,[.int .i64 op,.int .i64 n,.string ⟨s.toArray⟩,.slice ao ks.length cap])) (by simp) 2 rfl;have p3:=H1.out.box (b:=(w.heap.size,51,[.int .i64 op,.int .i64 n,.string ⟨s.toArray⟩,.slice ao ks.length cap])) (by simp) 3 rfl;have CW:Hid (Calls Tryz.prog 147 #[.pointer (some ⟨X.p,0,none⟩),.agg #[.int .i64 op,.int .i64 n,.string ⟨s.toArray⟩,.slice ao ks.length cap]] w1 fun e w'=>Step X (.tuple #[]) w [] G S (fun _=>False) (ls++fa++[xw]) e w'):=by
  obtain⟨G1,j1,j2,j3,j4⟩:=H1.out
  rw[hxw.out]
  refine (iWord j2 hT op n hop s ks.length hn ao cap).mono ?_;rintro e w' (⟨rfl,k1,k2⟩|hF)
  ·exact .inr ⟨rfl,G1,j1,k1,fun b hb=>by simp at hb,j4.trans k2⟩
  ·exact .inl hF
 clear hK HA
 go_wp2_with (go_at_call 147;refine hold ?_)
 refine Calls.mono CW.out ?_;clear p0 p1 p2 p3;rintro e w2 (⟨rfl,hn',hB⟩|⟨rfl,hK⟩)
 ·clear H1 CW;go_wp2_with fail
  exact⟨rfl,.inr ⟨rfl,by simp only[List.length_append,List.length_cons,List.length_nil] at hn' ⊢;omega,hB⟩⟩
 have H2:Hid (At X w [] G S (fun _=>False) (ls++fa++[xw]) w2):=hK;clear hK H1 CW;go_wp2_with fail;refine bodyPost_end (v:=.tuple #[]) ?_ rfl (H2.out.ends (by simp));simp[results,Tryz.results101]

theorem just2 {p q:Int→Bool}{ks:List Data}(h:justB [p,q] (ks.map opOf)=true):∃ k0 k1,ks=[k0,k1]∧p (opOf k0)=true∧q (opOf k1)=true:=by
 match ks,h with
 | [],h=>simp[justB] at h
 | [_],h=>simp[justB] at h
 | [k0,k1],h=>simp[justB] at h;exact⟨k0,k1,rfl,h.1,h.2⟩
 | _::_::_::_,h=>simp[justB] at h
theorem just3 {p q r:Int→Bool}{ks:List Data}(h:justB [p,q,r] (ks.map opOf)=true):∃ k0 k1 k2,ks=[k0,k1,k2]∧p (opOf k0)=true∧q (opOf k1)=true∧r (opOf k2)=true:=by
 match ks,h with
 | [],h=>simp[justB] at h
 | [_],h=>simp[justB] at h
 | [_,_],h=>simp[justB] at h
 | [k0,k1,k2],h=>simp[justB] at h;exact⟨k0,k1,k2,rfl,h.1,h.2.1,h.2.2⟩
 | _::_::_::_::_,h=>simp[justB] at h
theorem kids_first (iv ic:ByteArray→Int){W:World}{t:Data}{S:Nat→Prop}{cs:List Value}(h:NodeIs W t S cs):(comp iv ic t).1=seqOf iv ic (kidsOf t):=by
 obtain⟨op,n,s,ks,rfl⟩:=node_node h
 rw[comp_kids,kids_nd]

theorem ranS_mono {X:Fx}{L:List Vl}{G:List Nat}{S S':Nat→Prop}{w w':World}{e:Ending}(h:RanS X L G S' w e w')(hs:∀ k,S' k→S k):RanS X L G S w e w':=by
 rcases h with ⟨rfl,G',h1,h2,h3⟩|h
 ·exact .inl ⟨rfl,G',fun g hg=>(h1 g hg).imp id (hs g),h2,h3⟩
 ·exact .inr h
theorem all_kids {t:Data}(h:allB t=true):∀ q∈kidsOf t,allB q=true:=by
 cases t <;> simp[allB] at h
 rename_i ks lab
 intro q hq
 have:=h.2
 rw[alls_all,List.all_eq_true] at this
 exact this q hq

set_option maxHeartbeats 1000000 in
theorem nodeOk {X:Fx}(hT:Tab X):∀ (m:Nat) (t:Data),cnt t≤m→cnt t≤1048577→allB t=true→NodeOk X t
 | 0,t,h,_,_=>by rw[cnt_kids] at h;omega
 | m+1,t,h,hb,hall=>by
  intro ls G w S a b c u hW hN hG
  obtain⟨op,n,s,ks,rfl⟩:=node_node hN
  rw[cnt_nd] at h hb
  rw[all_nd,Bool.and_eq_true,alls_all,List.all_eq_true] at hall
  obtain⟨hnode,hkids⟩:=hall
  have hlen:ks.length≤1048577:=by have:=cnts_len ks;omega
  have ok:∀ k∈ks,NodeOk X k:=fun k hk=>nodeOk hT m k (by have:=cnts_mem hk;omega) (by have:=cnts_mem hk;omega) (hkids k hk);have oks:NodesOk X ks:=iNodes ok hlen;have gk:∀ k∈ks,NodesOk X (kidsOf k):=fun k hk=>by
   have c1:=cnts_mem hk;have c2:=cnt_kids k;refine iNodes (fun q hq=>?_) (by have:=cnts_len (kidsOf k);omega);have c3:=cnts_mem hq;exact nodeOk hT m q (by omega) (by omega) (all_kids (hkids k hk) q hq)
  have bk:∀ k∈ks,BlockOk X k:=fun k hk=>iBlock (gk k hk) (by have c1:=cnts_mem hk;have c2:=cnt_kids k;have:=cnts_len (kidsOf k);omega);unfold nodeB at hnode
  rw[Bool.and_eq_true,op_nd,kids_nd] at hnode
  have hkind:=hnode.2
  rw[nodeP_nd]
  have vals:=node_parts hN
  obtain⟨ao,cap,xs,he,q1,q2,q3⟩:=vals
  simp at he
  obtain⟨rfl,rfl,rfl,rfl⟩:=he
  have hWa:∀ o,Wk X ls G (w.alloc o):=fun o=>hW.later ((Below.refl _ _).alloc (Nat.le_refl _) o)
  by_cases h29:op=29
  ·subst h29;exact via29 hW fun o=>iBlock (t:=nd 29 n s ks) oks hlen ls G _ S _ _ _ _ (hWa o) hN hG
  by_cases h30:op=30
  ·subst h30;have e1:opV X.iv X.ic 30 n s ks (ks.map (comp X.iv X.ic)) ls.length=(if ks.isEmpty then [(1,0,none'),(9,0,none'),(33,0,none')] else printOf X.iv X.ic ks ls.length)++[(34,0,none')]:=by
    unfold opV printOf;simp
   rw[e1]
   exact via30 hW fun o=>(iPrint ok hlen (hWa o) q1 q3 fun g hg hs=>hG g hg hs.1).mono fun e w' h=>ranS_mono h fun k hk=>hk.1
  by_cases h31:op=31
  ·subst h31;have hk':justB [eB,blB] (ks.map opOf)=true∨justB [eB,blB,blB] (ks.map opOf)=true:=by simpa [kindB] using hkind
   rcases hk' with hk'|hk'
   ·obtain⟨k0,k1,rfl,-,-⟩:=just2 hk'
    obtain⟨_,_,_,_,_,_,_,_,_,_,_,_,T⟩:=kids2 hN
    have e1:opV X.iv X.ic 31 n s [k0,k1] ([k0,k1].map (comp X.iv X.ic)) ls.length=ifV (nodeP X.iv X.ic k0) (seqOf X.iv X.ic (kidsOf k1)) ls.length:=by
     rw[← kids_first X.iv X.ic T.k1]
     rfl
    rw[e1]
    exact via31 hW fun o=>iChoice (ok k0 (by simp)) (bk k1 (by simp)) (hWa o) hN hG
   ·obtain⟨k0,k1,k2,rfl,-,-,-⟩:=just3 hk'
    obtain⟨_,_,_,_,_,_,_,_,_,_,_,_,_,_,_,_,_,_,_,_,_,_,_,_,_,_,_,_,_,_,_,_,i1,i2,_⟩:=kids3 hN
    have e1:opV X.iv X.ic 31 n s [k0,k1,k2] ([k0,k1,k2].map (comp X.iv X.ic)) ls.length=elseV (nodeP X.iv X.ic k0) (seqOf X.iv X.ic (kidsOf k1)) (seqOf X.iv X.ic (kidsOf k2)) ls.length:=by
     rw[← kids_first X.iv X.ic i1,← kids_first X.iv X.ic i2]
     rfl
    rw[e1]
    exact via31 hW fun o=>iChoice3 (ok k0 (by simp)) (bk k1 (by simp)) (bk k2 (by simp)) (hWa o) hN hG
  by_cases h32:op=32
  ·subst h32;have hk':justB [eB,blB] (ks.map opOf)=true:=by simpa [kindB] using hkind
   obtain⟨k0,k1,rfl,-,-⟩:=just2 hk'
   obtain⟨_,_,_,_,_,_,_,_,_,_,_,_,T⟩:=kids2 hN
   have e1:opV X.iv X.ic 32 n s [k0,k1] ([k0,k1].map (comp X.iv X.ic)) ls.length=whileV (nodeP X.iv X.ic k0) (seqOf X.iv X.ic (kidsOf k1)) ls.length:=by
    rw[← kids_first X.iv X.ic T.k1]
    rfl
   rw[e1]
   exact via32 hW fun o=>iLoop (ok k0 (by simp)) (bk k1 (by simp)) (hWa o) hN hG
  by_cases h24:op=24
  ·subst h24;have hk':justB [eB,eB] (ks.map opOf)=true:=by simpa [kindB] using hkind
   obtain⟨k0,k1,rfl,-,-⟩:=just2 hk'
   exact via24 hW fun o=>iBoth (ok k0 (by simp)) (ok k1 (by simp)) (hWa o) hN hG
  by_cases h25:op=25
  ·subst h25;have hk':justB [eB,eB] (ks.map opOf)=true:=by simpa [kindB] using hkind
   obtain⟨k0,k1,rfl,-,-⟩:=just2 hk'
   exact via25 hW fun o=>iEither (ok k0 (by simp)) (ok k1 (by simp)) (hWa o) hN hG
  by_cases h26:op=26
  ·subst h26;have hk':justB [setB,eB] (ks.map opOf)=true:=by simpa [kindB] using hkind
   obtain⟨k0,k1,rfl,-,-⟩:=just2 hk'
   obtain⟨_,_,_,_,_,_,_,_,_,_,_,_,T⟩:=kids2 hN
   have e1:opV X.iv X.ic 26 n s [k0,k1] ([k0,k1].map (comp X.iv X.ic)) ls.length=seqs [seqOf X.iv X.ic (kidsOf k0),nodeP X.iv X.ic k1] ls.length++[if opOf k0=4 then (4,X.iv (tx (txtOf k0)),none') else (7,X.ic (tx (txtOf k0)),none')]:=by
    rw[← kids_first X.iv X.ic T.k0]
    rfl
   rw[e1]
   exact via26 hW fun o=>iSet (gk k0 (by simp)) (ok k1 (by simp)) (hWa o) hN hG
  by_cases h27:op=27
  ·subst h27;have hk':justB [setB,eB] (ks.map opOf)=true:=by simpa [kindB] using hkind
   obtain⟨k0,k1,rfl,-,-⟩:=just2 hk'
   obtain⟨_,_,_,_,_,_,_,_,_,_,_,_,T⟩:=kids2 hN
   have e1:opV X.iv X.ic 27 n s [k0,k1] ([k0,k1].map (comp X.iv X.ic)) ls.length=seqs [seqOf X.iv X.ic (kidsOf k0),nodeP X.iv X.ic k1] ls.length++[if opOf k0=4 then (5,X.iv (tx (txtOf k0)),none') else (8,X.ic (tx (txtOf k0)),none')]:=by
    rw[← kids_first X.iv X.ic T.k0]
    rfl
   rw[e1]
   exact via27 hW fun o=>iSet (gk k0 (by simp)) (ok k1 (by simp)) (hWa o) hN hG
  by_cases h21:op=21
  ·subst h21;have hk':justB [eB,eB] (ks.map opOf)=true:=by simpa [kindB] using hkind
   obtain⟨k0,k1,rfl,-,-⟩:=just2 hk'
   exact iFits (ok k0 (by simp)) hW hN hG
  have hop:WordOp op:=by
   unfold kindB at hkind;unfold WordOp
   split at hkind
   ·omega
   split at hkind
   ·omega
   split at hkind
   ·omega
   split at hkind
   ·omega
   split at hkind
   ·omega
   cases hkind
  have e1:opV X.iv X.ic op n s ks (ks.map (comp X.iv X.ic)) ls.length=seqOf X.iv X.ic ks ls.length++[wordV X.iv X.ic op n s ks.length]:=by
   unfold opV
   rw[if_neg h29,if_neg h30,if_neg h31,if_neg h32,if_neg h24,if_neg h25,if_neg (by omega),if_neg h21]
   rfl
  rw[e1]
  exact iPlain hT hop oks hlen hW hN hG

end Cm
namespace Cm
open St (Vl encV)
open Nd Ty
open Oc (hold Blk)

def ruleP (iv ic:ByteArray→Int)(r:Ru):Pt:=if r.1=3 then ifV (nodeP iv ic r.2.1) (seqOf iv ic (kidsOf r.2.2)) else seqOf iv ic (kidsOf r.2.2)

set_option maxHeartbeats 1000000 in
set_option maxRecDepth 100000 in
theorem iRule {X:Fx}{kd:Int}{tp tb:Data}(hkp:kd=3→NodeOk X tp)(hkb:BlockOk X tb){ls:List Vl}{G:List Nat}{w:World}{S Sp Sb:Nat→Prop}{a0 a1 a2 a3 b0 b1 b2 b3:Value}(hW:Wk X ls G w)(hP:NodeIs X.W tp Sp [a0,a1,a2,a3])(hB:NodeIs X.W tb Sb [b0,b1,b2,b3])(hd:∀ k,Sp k→S k∧¬ Sb k)(hd2:∀ k,Sb k→S k)(hG:∀ g∈G,¬ S g):
  Calls Tryz.prog 58 #[.pointer (some ⟨X.p,0,none⟩),.agg #[.int .i64 kd,a0,a1,a2,a3,b0,b1,b2,b3]] w fun e w'=>RanS X (ls++ruleP X.iv X.ic (kd,tp,tb) ls.length) G S w e w':=by
 obtain⟨ap,cp,rfl,rfl,rfl,rfl⟩:=node_vals hP
 obtain⟨ab,cb,rfl,rfl,rfl,rfl⟩:=node_vals hB
 have HA:Hid (At X w [(w.heap.size,53,[.int .i64 kd,.int .i64 (opOf tp),.int .i64 (numOf tp),.string ⟨(txtOf tp).toArray⟩,.slice ap (kidsOf tp).length cp,.int .i64 (opOf tb),.int .i64 (numOf tb),.string ⟨(txtOf tb).toArray⟩,.slice ab (kidsOf tb).length cb])] G S (fun k=>Sp k∨Sb k) ls (w.alloc (.cells #[.int .i64 kd,.int .i64 (opOf tp),.int .i64 (numOf tp),.string ⟨(txtOf tp).toArray⟩,.slice ap (kidsOf tp).length cp,.int .i64 (opOf tb),.int .i64 (numOf tb),.string ⟨(txtOf tb).toArray⟩,.slice ab (kidsOf tb).length cb] 53))):=(at_none hW hG (fun k hk=>hk.elim (fun h=>(hd k h).1) (hd2 k))).more _ _;have R1:∀ k,Sb k→S k∧Sb k∧¬ False:=fun k hk=>⟨hd2 k hk,hk,id⟩
 by_cases hk3:kd=3
 ·subst hk3;have hkp':=hkp rfl
  obtain⟨fa,hfa⟩:=hid_eq (nodeP X.iv X.ic tp ls.length)
  obtain⟨fc,hfc⟩:=hid_eq (seqOf X.iv X.ic (kidsOf tb) (ls.length+fa.length+1))
  have HV:Hid (ruleP X.iv X.ic (3,tp,tb) ls.length=fa++(31,((ls.length+fa.length+1+fc.length:Nat):Int),none')::fc):=by
   show _=_;unfold ruleP;simp only[if_true,ifV,← hfa.out,← hfc.out]
  rw[HV.out]
  clear HV hW hG hkp
  go_enter Tryz.func58,Tryz.ntmps58
  go_wp2_with (go_at_call 101;refine hold ?_)
  refine Calls.mono (at_node (R':=Sb) (x:=fa) hkp' HA.out hP (fun k hk=>⟨(hd k hk).1,.inl hk,(hd k hk).2⟩) (fun k hk=>.inr hk) hfa.out) ?_;rintro e w1 (⟨rfl,hn,hF⟩|⟨rfl,hK⟩)
  ·clear HA;go_wp2_with fail
   exact⟨rfl,.inr ⟨rfl,by simp only[List.length_append,List.length_cons] at hn ⊢;omega,hF⟩⟩
  have H1:Hid (At X w [(w.heap.size,53,[.int .i64 3,.int .i64 (opOf tp),.int .i64 (numOf tp),.string ⟨(txtOf tp).toArray⟩,.slice ap (kidsOf tp).length cp,.int .i64 (opOf tb),.int .i64 (numOf tb),.string ⟨(txtOf tb).toArray⟩,.slice ab (kidsOf tb).length cb])] G S Sb (ls++fa) w1):=hK;clear hK HA
  obtain⟨jn,hjn⟩:∃ jn:Nat,Hid (jn=(ls++fa).length):=⟨_,rfl⟩
  go_wp2_with (go_at_call 102;refine hold ?_)
  refine Calls.mono (at_jump H1.out 31 hjn.out) ?_;rintro e w2 (⟨rfl,hn,hF⟩|⟨rfl,hK⟩)
  ·clear H1;go_wp2_with fail
   exact⟨rfl,.inr ⟨rfl,by simp only[List.length_append,List.length_cons,List.length_nil] at hn ⊢;omega,hF⟩⟩
  have H2:Hid (At X w [(w.heap.size,53,[.int .i64 3,.int .i64 (opOf tp),.int .i64 (numOf tp),.string ⟨(txtOf tp).toArray⟩,.slice ap (kidsOf tp).length cp,.int .i64 (opOf tb),.int .i64 (numOf tb),.string ⟨(txtOf tb).toArray⟩,.slice ab (kidsOf tb).length cb])] G S Sb (ls++fa++[((31,0,none'):Vl)]) w2):=hK;have p5:=H2.out.box (b:=(w.heap.size,53,[.int .i64 3,.int .i64 (opOf tp),.int .i64 (numOf tp),.string ⟨(txtOf tp).toArray⟩,.slice ap (kidsOf tp).length cp,.int .i64 (opOf tb),.int .i64 (numOf tb),.string ⟨(txtOf tb).toArray⟩,.slice ab (kidsOf tb).length cb])) (by simp) 5 rfl;have p6:=H2.out.box (b:=(w.heap.size,53,[.int .i64 3,.int .i64 (opOf tp),.int .i64 (numOf tp),.string ⟨(txtOf tp).toArray⟩,.slice ap (kidsOf tp).length cp,.int .i64 (opOf tb),.int .i64 (numOf tb),.string ⟨(txtOf tb).toArray⟩,.slice ab (kidsOf tb).length cb])) (by simp) 6 rfl;have p7:=H2.out.box (b:=(w.heap.size,53,[.int .i64 3,.int .i64 (opOf tp),.int .i64 (numOf tp),.string ⟨(txtOf tp).toArray⟩,.slice ap (kidsOf tp).length cp,.int .i64 (opOf tb),.int .i64 (numOf tb),.string ⟨(txtOf tb).toArray⟩,.slice ab (kidsOf tb).length cb])) (by simp) 7 rfl;have p8:=H2.out.box (b:=(w.heap.size,53,[.int .i64 3,.int .i64 (opOf tp),.int .i64 (numOf tp),.string ⟨(txtOf tp).toArray⟩,.slice ap (kidsOf tp).length cp,.int .i64 (opOf tb),.int .i64 (numOf tb),.string ⟨(txtOf tb).toArray⟩,.slice ab (kidsOf tb).length cb])) (by simp) 8 rfl;clear hK H1
  go_wp2_with (go_at_call 100;refine hold ?_)
  refine Calls.mono (at_block (R':=fun _=>False) (x:=fc) hkb H2.out hB R1 (fun k hk=>hk.elim) (by rw[hfc.out];congr 1;simp;omega)) ?_;clear p5 p6 p7 p8;rintro e w3 (⟨rfl,hn,hF⟩|⟨rfl,hK⟩)
  ·clear H2;go_wp2_with fail
   exact⟨rfl,.inr ⟨rfl,by simp only[List.length_append,List.length_cons,List.length_nil] at hn ⊢;omega,hF⟩⟩
  have H3:Hid (At X w [(w.heap.size,53,[.int .i64 3,.int .i64 (opOf tp),.int .i64 (numOf tp),.string ⟨(txtOf tp).toArray⟩,.slice ap (kidsOf tp).length cp,.int .i64 (opOf tb),.int .i64 (numOf tb),.string ⟨(txtOf tb).toArray⟩,.slice ab (kidsOf tb).length cb])] G S (fun _=>False) (ls++fa++[((31,0,none'):Vl)]++fc) w3):=hK;clear hK H2
  go_wp2_with (go_at_call 103;refine hold ?_)
  refine Calls.mono (at_land H3.out (l1:=ls++fa) (c:=31) (n:=0) (s:=none') (l2:=fc) (by simp) hjn.out (N:=ls.length+fa.length+1+fc.length) (by simp;omega)) ?_;rintro e w4 ⟨rfl,hK⟩;have H4:Hid (At X w [(w.heap.size,53,[.int .i64 3,.int .i64 (opOf tp),.int .i64 (numOf tp),.string ⟨(txtOf tp).toArray⟩,.slice ap (kidsOf tp).length cp,.int .i64 (opOf tb),.int .i64 (numOf tb),.string ⟨(txtOf tb).toArray⟩,.slice ab (kidsOf tb).length cb])] G S (fun _=>False) (ls++fa++(31,((ls.length+fa.length+1+fc.length:Nat):Int),none')::fc) w4):=hK;clear hK H3;go_wp2_with fail;refine bodyPost_end (v:=.tuple #[]) ?_ rfl (H4.out.ends (by simp));simp[results,Tryz.results58]
 ·have HV:Hid (ruleP X.iv X.ic (kd,tp,tb) ls.length=seqOf X.iv X.ic (kidsOf tb) ls.length):=by
   show _=_;unfold ruleP
   rw[if_neg hk3]
  rw[HV.out]
  clear HV hW hG hkp
  go_enter Tryz.func58,Tryz.ntmps58
  go_wp2_with (go_at_call 100;refine hold ?_)
  refine Calls.mono (at_block (R':=fun _=>False) (x:=seqOf X.iv X.ic (kidsOf tb) ls.length) hkb HA.out hB (fun k hk=>⟨hd2 k hk,.inr hk,id⟩) (fun k hk=>hk.elim) rfl) ?_;rintro e w3 (⟨rfl,hn,hF⟩|⟨rfl,hK⟩)
  ·clear HA;go_wp2_with fail
   exact⟨rfl,.inr ⟨rfl,hn,hF⟩⟩
  have H3:Hid (At X w [(w.heap.size,53,[.int .i64 kd,.int .i64 (opOf tp),.int .i64 (numOf tp),.string ⟨(txtOf tp).toArray⟩,.slice ap (kidsOf tp).length cp,.int .i64 (opOf tb),.int .i64 (numOf tb),.string ⟨(txtOf tb).toArray⟩,.slice ab (kidsOf tb).length cb])] G S (fun _=>False) (ls++seqOf X.iv X.ic (kidsOf tb) ls.length) w3):=hK;clear hK HA;go_wp2_with fail
  first
   | (refine bodyPost_ret (v:=.tuple #[]) ?_ rfl (H3.out.ends rfl);simp[results,Tryz.results58])
   | (refine bodyPost_end (v:=.tuple #[]) ?_ rfl (H3.out.ends rfl);simp[results,Tryz.results58])

end Cm
end Go.Proofs.YtllbachngocmnaaGreatDoor
