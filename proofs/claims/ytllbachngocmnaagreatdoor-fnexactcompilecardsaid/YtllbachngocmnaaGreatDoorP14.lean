/-
  A node is compiled as its places say: the specification, by induction.
-/
import Derived.Test.YtllbachngocmnaaGreatDoorP13
namespace Go.Proofs.YtllbachngocmnaaGreatDoor
open Go.RowKit
namespace Sp
open St (Vl encV)
open Nd Ty Cm
open Pg (RdT)
open Oc (hold Blk)

set_option maxRecDepth 100000 in
theorem vE24 {X:Fx}{L ls:List Vl}{w:World}{n:Int}{s:List UInt8}{ao:Option Addr}{K cap:Nat}(hW:Wk X ls w)(hC:∀ o,Calls Tryz.prog 43 #[.pointer (some ⟨X.p,0,none⟩),.agg #[.int .i64 24,.int .i64 n,.string ⟨s.toArray⟩,.slice ao K cap]] (w.alloc o) fun e w'=>Ran X L (w.alloc o) e w'):
  Calls Tryz.prog 17 #[.pointer (some ⟨X.p,0,none⟩),.agg #[.int .i64 24,.int .i64 n,.string ⟨s.toArray⟩,.slice ao K cap]] w fun e w'=>Ran X L w e w':=by
 have HC:Hid (∀ o,Ch X w (w.alloc o)):=fun o=>ch_below hW.lt ((Below.refl _ _).alloc (Nat.le_refl _) o);have CALL:Hid _:=hC;clear hW hC
 go_enter Tryz.func17,Tryz.ntmps17
 go_wp2_with (go_at_call 43;refine hold ?_)
 refine Calls.mono (CALL.out _) ?_;rintro e w2 ⟨rfl,j2,j3⟩;have HR:Hid (Ran X L w (.returned (.tuple #[])) w2):=⟨rfl,j2,(HC.out _).trans j3⟩;clear HC CALL j2 j3;go_wp2_with fail;refine bodyPost_end (v:=.tuple #[]) ?_ rfl HR.out;simp[results,Tryz.results17]

set_option maxRecDepth 100000 in
theorem vE25 {X:Fx}{L ls:List Vl}{w:World}{n:Int}{s:List UInt8}{ao:Option Addr}{K cap:Nat}(hW:Wk X ls w)(hC:∀ o,Calls Tryz.prog 44 #[.pointer (some ⟨X.p,0,none⟩),.agg #[.int .i64 25,.int .i64 n,.string ⟨s.toArray⟩,.slice ao K cap]] (w.alloc o) fun e w'=>Ran X L (w.alloc o) e w'):
  Calls Tryz.prog 17 #[.pointer (some ⟨X.p,0,none⟩),.agg #[.int .i64 25,.int .i64 n,.string ⟨s.toArray⟩,.slice ao K cap]] w fun e w'=>Ran X L w e w':=by
 have HC:Hid (∀ o,Ch X w (w.alloc o)):=fun o=>ch_below hW.lt ((Below.refl _ _).alloc (Nat.le_refl _) o);have CALL:Hid _:=hC;clear hW hC
 go_enter Tryz.func17,Tryz.ntmps17
 go_wp2_with (go_at_call 44;refine hold ?_)
 refine Calls.mono (CALL.out _) ?_;rintro e w2 ⟨rfl,j2,j3⟩;have HR:Hid (Ran X L w (.returned (.tuple #[])) w2):=⟨rfl,j2,(HC.out _).trans j3⟩;clear HC CALL j2 j3;go_wp2_with fail;refine bodyPost_end (v:=.tuple #[]) ?_ rfl HR.out;simp[results,Tryz.results17]

set_option maxRecDepth 100000 in
theorem vE26 {X:Fx}{L ls:List Vl}{w:World}{n:Int}{s:List UInt8}{ao:Option Addr}{K cap:Nat}(hW:Wk X ls w)(hC:∀ o,Calls Tryz.prog 42 #[.pointer (some ⟨X.p,0,none⟩),.agg #[.int .i64 26,.int .i64 n,.string ⟨s.toArray⟩,.slice ao K cap]] (w.alloc o) fun e w'=>Ran X L (w.alloc o) e w'):
  Calls Tryz.prog 17 #[.pointer (some ⟨X.p,0,none⟩),.agg #[.int .i64 26,.int .i64 n,.string ⟨s.toArray⟩,.slice ao K cap]] w fun e w'=>Ran X L w e w':=by
 have HC:Hid (∀ o,Ch X w (w.alloc o)):=fun o=>ch_below hW.lt ((Below.refl _ _).alloc (Nat.le_refl _) o);have CALL:Hid _:=hC;clear hW hC
 go_enter Tryz.func17,Tryz.ntmps17
 go_wp2_with (go_at_call 42;refine hold ?_)
 refine Calls.mono (CALL.out _) ?_;rintro e w2 ⟨rfl,j2,j3⟩;have HR:Hid (Ran X L w (.returned (.tuple #[])) w2):=⟨rfl,j2,(HC.out _).trans j3⟩;clear HC CALL j2 j3;go_wp2_with fail;refine bodyPost_end (v:=.tuple #[]) ?_ rfl HR.out;simp[results,Tryz.results17]

set_option maxRecDepth 100000 in
theorem vE27 {X:Fx}{L ls:List Vl}{w:World}{n:Int}{s:List UInt8}{ao:Option Addr}{K cap:Nat}(hW:Wk X ls w)(hC:∀ o,Calls Tryz.prog 42 #[.pointer (some ⟨X.p,0,none⟩),.agg #[.int .i64 27,.int .i64 n,.string ⟨s.toArray⟩,.slice ao K cap]] (w.alloc o) fun e w'=>Ran X L (w.alloc o) e w'):
  Calls Tryz.prog 17 #[.pointer (some ⟨X.p,0,none⟩),.agg #[.int .i64 27,.int .i64 n,.string ⟨s.toArray⟩,.slice ao K cap]] w fun e w'=>Ran X L w e w':=by
 have HC:Hid (∀ o,Ch X w (w.alloc o)):=fun o=>ch_below hW.lt ((Below.refl _ _).alloc (Nat.le_refl _) o);have CALL:Hid _:=hC;clear hW hC
 go_enter Tryz.func17,Tryz.ntmps17
 go_wp2_with (go_at_call 42;refine hold ?_)
 refine Calls.mono (CALL.out _) ?_;rintro e w2 ⟨rfl,j2,j3⟩;have HR:Hid (Ran X L w (.returned (.tuple #[])) w2):=⟨rfl,j2,(HC.out _).trans j3⟩;clear HC CALL j2 j3;go_wp2_with fail;refine bodyPost_end (v:=.tuple #[]) ?_ rfl HR.out;simp[results,Tryz.results17]

set_option maxRecDepth 100000 in
theorem vStmt29 {X:Fx}{L ls:List Vl}{w:World}{n:Int}{s:List UInt8}{ao:Option Addr}{K cap:Nat}(hW:Wk X ls w)(hC:∀ o,Calls Tryz.prog 16 #[.pointer (some ⟨X.p,0,none⟩),.agg #[.int .i64 29,.int .i64 n,.string ⟨s.toArray⟩,.slice ao K cap]] (w.alloc o) fun e w'=>Ran X L (w.alloc o) e w'):
  Calls Tryz.prog 41 #[.pointer (some ⟨X.p,0,none⟩),.agg #[.int .i64 29,.int .i64 n,.string ⟨s.toArray⟩,.slice ao K cap]] w fun e w'=>Ran X L w e w':=by
 have HC:Hid (∀ o,Ch X w (w.alloc o)):=fun o=>ch_below hW.lt ((Below.refl _ _).alloc (Nat.le_refl _) o);have CALL:Hid _:=hC;clear hW hC
 go_enter Tryz.func41,Tryz.ntmps41
 go_wp2_with (go_at_call 16;refine hold ?_)
 refine Calls.mono (CALL.out _) ?_;rintro e w2 ⟨rfl,j2,j3⟩;have HR:Hid (Ran X L w (.returned (.tuple #[])) w2):=⟨rfl,j2,(HC.out _).trans j3⟩;clear HC CALL j2 j3;go_wp2_with fail;refine bodyPost_end (v:=.tuple #[]) ?_ rfl HR.out;simp[results,Tryz.results41]

set_option maxRecDepth 100000 in
theorem vStmt30 {X:Fx}{L ls:List Vl}{w:World}{n:Int}{s:List UInt8}{ao:Option Addr}{K cap:Nat}(hW:Wk X ls w)(hC:∀ o,Calls Tryz.prog 71 #[.pointer (some ⟨X.p,0,none⟩),.agg #[.int .i64 30,.int .i64 n,.string ⟨s.toArray⟩,.slice ao K cap]] (w.alloc o) fun e w'=>Ran X L (w.alloc o) e w'):
  Calls Tryz.prog 41 #[.pointer (some ⟨X.p,0,none⟩),.agg #[.int .i64 30,.int .i64 n,.string ⟨s.toArray⟩,.slice ao K cap]] w fun e w'=>Ran X L w e w':=by
 have HC:Hid (∀ o,Ch X w (w.alloc o)):=fun o=>ch_below hW.lt ((Below.refl _ _).alloc (Nat.le_refl _) o);have CALL:Hid _:=hC;clear hW hC
 go_enter Tryz.func41,Tryz.ntmps41
 go_wp2_with (go_at_call 71;refine hold ?_)
 refine Calls.mono (CALL.out _) ?_;rintro e w2 ⟨rfl,j2,j3⟩;have HR:Hid (Ran X L w (.returned (.tuple #[])) w2):=⟨rfl,j2,(HC.out _).trans j3⟩;clear HC CALL j2 j3;go_wp2_with fail;refine bodyPost_end (v:=.tuple #[]) ?_ rfl HR.out;simp[results,Tryz.results41]

set_option maxRecDepth 100000 in
theorem vStmt31 {X:Fx}{L ls:List Vl}{w:World}{n:Int}{s:List UInt8}{ao:Option Addr}{K cap:Nat}(hW:Wk X ls w)(hC:∀ o,Calls Tryz.prog 72 #[.pointer (some ⟨X.p,0,none⟩),.agg #[.int .i64 31,.int .i64 n,.string ⟨s.toArray⟩,.slice ao K cap]] (w.alloc o) fun e w'=>Ran X L (w.alloc o) e w'):
  Calls Tryz.prog 41 #[.pointer (some ⟨X.p,0,none⟩),.agg #[.int .i64 31,.int .i64 n,.string ⟨s.toArray⟩,.slice ao K cap]] w fun e w'=>Ran X L w e w':=by
 have HC:Hid (∀ o,Ch X w (w.alloc o)):=fun o=>ch_below hW.lt ((Below.refl _ _).alloc (Nat.le_refl _) o);have CALL:Hid _:=hC;clear hW hC
 go_enter Tryz.func41,Tryz.ntmps41
 go_wp2_with (go_at_call 72;refine hold ?_)
 refine Calls.mono (CALL.out _) ?_;rintro e w2 ⟨rfl,j2,j3⟩;have HR:Hid (Ran X L w (.returned (.tuple #[])) w2):=⟨rfl,j2,(HC.out _).trans j3⟩;clear HC CALL j2 j3;go_wp2_with fail;refine bodyPost_end (v:=.tuple #[]) ?_ rfl HR.out;simp[results,Tryz.results41]

set_option maxRecDepth 100000 in
theorem vStmt32 {X:Fx}{L ls:List Vl}{w:World}{n:Int}{s:List UInt8}{ao:Option Addr}{K cap:Nat}(hW:Wk X ls w)(hC:∀ o,Calls Tryz.prog 73 #[.pointer (some ⟨X.p,0,none⟩),.agg #[.int .i64 32,.int .i64 n,.string ⟨s.toArray⟩,.slice ao K cap]] (w.alloc o) fun e w'=>Ran X L (w.alloc o) e w'):
  Calls Tryz.prog 41 #[.pointer (some ⟨X.p,0,none⟩),.agg #[.int .i64 32,.int .i64 n,.string ⟨s.toArray⟩,.slice ao K cap]] w fun e w'=>Ran X L w e w':=by
 have HC:Hid (∀ o,Ch X w (w.alloc o)):=fun o=>ch_below hW.lt ((Below.refl _ _).alloc (Nat.le_refl _) o);have CALL:Hid _:=hC;clear hW hC
 go_enter Tryz.func41,Tryz.ntmps41
 go_wp2_with (go_at_call 73;refine hold ?_)
 refine Calls.mono (CALL.out _) ?_;rintro e w2 ⟨rfl,j2,j3⟩;have HR:Hid (Ran X L w (.returned (.tuple #[])) w2):=⟨rfl,j2,(HC.out _).trans j3⟩;clear HC CALL j2 j3;go_wp2_with fail;refine bodyPost_end (v:=.tuple #[]) ?_ rfl HR.out;simp[results,Tryz.results41]

set_option maxHeartbeats 1000000 in
set_option maxRecDepth 100000 in
theorem sFits {X:Fx}{n:Int}{s:List UInt8}{k0 k1:Data}(hk0:EOk X k0){ls:List Vl}{w:World}{S:Nat→Prop}{a b c u:Value}(hW:Wk X ls w)(hN:NodeIs X.W (nd 21 n s [k0,k1]) S [a,b,c,u])(hB:(ls++(nodeP X.iv X.ic k0 ls.length++[(24,0,tx (txtOf k1))])).length≤40000000):
  Calls Tryz.prog 17 #[.pointer (some ⟨X.p,0,none⟩),.agg #[a,b,c,u]] w fun e w'=>Ran X (ls++(nodeP X.iv X.ic k0 ls.length++[(24,0,tx (txtOf k1))])) w e w':=by
 obtain⟨g,cap,x0,x1,x2,x3,y0,y1,y2,y3,S0,S1,T⟩:=kids2 hN
 have hv:=T.val;simp at hv
 obtain⟨rfl,rfl,rfl,rfl⟩:=hv
 obtain⟨ao0,cap0,rfl,rfl,rfl,rfl⟩:=node_vals T.k0
 obtain⟨ao1,cap1,rfl,rfl,rfl,rfl⟩:=node_vals T.k1
 obtain⟨-,hgl,-,c0,c1,c2,c3,d0,d1,d2,d3,i0,i1,t0,t1⟩:=T
 obtain⟨fa,hfa⟩:=hid_eq (nodeP X.iv X.ic k0 ls.length)
 rw[← hfa.out] at hB ⊢
 have HB:Hid ((ls++fa).length+1≤40000000):=by show _≤_;simp only[List.length_append,List.length_cons,List.length_nil] at hB ⊢;omega
 have HA:Hid (At X w [(nb w 21 n s g 2 cap)] ls (w.alloc (.cells #[.int .i64 21,.int .i64 n,.string ⟨s.toArray⟩,.slice (some ⟨g,0,none⟩) 2 cap] 51))):=(at_none hW).more _ _;have c0':=HA.out.cell c0;have c1':=HA.out.cell c1;have c2':=HA.out.cell c2;have c3':=HA.out.cell c3;clear hW hN hB
 go_enter Tryz.func17,Tryz.ntmps17
 go_wp2_with (go_at_call 17;refine hold ?_)
 refine Calls.mono (at_e (x:=fa) hk0 HA.out i0 hfa.out (by have:=HB.out;omega)) ?_;clear c0' c1' c2' c3';rintro e w1 ⟨rfl,hK⟩;have H1:Hid (At X w [(nb w 21 n s g 2 cap)] (ls++fa) w1):=hK;have p3:=H1.out.box (b:=(nb w 21 n s g 2 cap)) (by simp) 3 rfl;have d2':=H1.out.cell d2
 obtain⟨jj,hjj⟩:=hid_eq (ls++fa).length
 clear hK HA
 go_wp2_with (go_at_call 18;refine hold ?_)
 refine Calls.mono (at_put H1.out (by have:=HB.out;omega) 24 0 (tx (txtOf k1)) hjj.out) ?_;rintro e w2 ⟨rfl,hK⟩;have H2:Hid (At X w [(nb w 21 n s g 2 cap)] (ls++fa++[((24,0,tx (txtOf k1)):Vl)]) w2):=hK;clear hK H1 p3 d2';go_wp2_with fail;refine bodyPost_end (v:=.tuple #[]) ?_ rfl (H2.out.ends (by simp));simp[results,Tryz.results17]

set_option maxRecDepth 100000 in
theorem sNext {X:Fx}{n:Int}{s:List UInt8}{ls:List Vl}{w:World}{ao:Option Addr}{K cap:Nat}(hW:Wk X ls w)(hB:ls.length+1≤40000000):
  Calls Tryz.prog 41 #[.pointer (some ⟨X.p,0,none⟩),.agg #[.int .i64 33,.int .i64 n,.string ⟨s.toArray⟩,.slice ao K cap]] w fun e w'=>Ran X (ls++[(36,0,none')]) w e w':=by
 have HA:Hid (∀ o,At X w [] ls (w.alloc o)):=fun o=>(at_none hW).later ((Below.refl _ w).alloc (Nat.le_refl _) o)
 obtain⟨jj,hjj⟩:=hid_eq ls.length
 clear hW
 go_enter Tryz.func41,Tryz.ntmps41
 go_wp2_with (go_at_call 18;refine hold ?_)
 refine Calls.mono (at_put (HA.out _) (by omega) 36 0 none' hjj.out) ?_;rintro e w2 ⟨rfl,hK⟩;have H2:Hid (At X w [] (ls++[((36,0,none'):Vl)]) w2):=hK;clear hK HA;go_wp2_with fail;refine bodyPost_end (v:=.tuple #[]) ?_ rfl (H2.out.ends rfl);simp[results,Tryz.results41]

set_option maxHeartbeats 1000000 in
set_option maxRecDepth 100000 in
theorem sDo {X:Fx}{n:Int}{s:List UInt8}{q:Data}(hq:EOk X q){ls:List Vl}{w:World}{S:Nat→Prop}{a b c u:Value}(hW:Wk X ls w)(hN:NodeIs X.W (nd 35 n s [q]) S [a,b,c,u])(hB:(ls++(nodeP X.iv X.ic q ls.length++[(32,0,none')])).length≤40000000):
  Calls Tryz.prog 41 #[.pointer (some ⟨X.p,0,none⟩),.agg #[a,b,c,u]] w fun e w'=>Ran X (ls++(nodeP X.iv X.ic q ls.length++[(32,0,none')])) w e w':=by
 obtain⟨g,cap,z0,z1,z2,z3,Sq,hv0,hg0,f0,f1,f2,f3,iq⟩:=kids1 hN
 simp at hv0
 obtain⟨rfl,rfl,rfl,rfl⟩:=hv0
 obtain⟨aoq,capq,rfl,rfl,rfl,rfl⟩:=node_vals iq
 obtain⟨fa,hfa⟩:=hid_eq (nodeP X.iv X.ic q ls.length)
 rw[← hfa.out] at hB ⊢
 have HB:Hid ((ls++fa).length+1≤40000000):=by show _≤_;simp only[List.length_append,List.length_cons,List.length_nil] at hB ⊢;omega
 have HA:Hid (At X w [(nb w 35 n s g 1 cap)] ls (w.alloc (.cells #[.int .i64 35,.int .i64 n,.string ⟨s.toArray⟩,.slice (some ⟨g,0,none⟩) 1 cap] 51))):=(at_none hW).more _ _;have f0':=HA.out.cell f0;have f1':=HA.out.cell f1;have f2':=HA.out.cell f2;have f3':=HA.out.cell f3;clear hW hN hB
 go_enter Tryz.func41,Tryz.ntmps41
 go_wp2_with (go_at_call 17;refine hold ?_)
 refine Calls.mono (at_e (x:=fa) hq HA.out iq hfa.out (by have:=HB.out;omega)) ?_;clear f0' f1' f2' f3';rintro e w1 ⟨rfl,hK⟩;have H1:Hid (At X w [(nb w 35 n s g 1 cap)] (ls++fa) w1):=hK
 obtain⟨jj,hjj⟩:=hid_eq (ls++fa).length
 clear hK HA
 go_wp2_with (go_at_call 18;refine hold ?_)
 refine Calls.mono (at_put H1.out (by have:=HB.out;omega) 32 0 none' hjj.out) ?_;rintro e w2 ⟨rfl,hK⟩;have H5:Hid (At X w [(nb w 35 n s g 1 cap)] (ls++fa++[((32,0,none'):Vl)]) w2):=hK;clear hK H1;go_wp2_with fail;refine bodyPost_end (v:=.tuple #[]) ?_ rfl (H5.out.ends (by simp));simp[results,Tryz.results41]

set_option maxHeartbeats 1000000 in
set_option maxRecDepth 100000 in
theorem sDrop {X:Fx}{n:Int}{s:List UInt8}{q:Data}(hq:EOk X q){ls:List Vl}{w:World}{S:Nat→Prop}{a b c u:Value}(hW:Wk X ls w)(hN:NodeIs X.W (nd 34 n s [q]) S [a,b,c,u])(hB:(ls++(nodeP X.iv X.ic q ls.length++[(35,X.ic (tx s),none')])).length≤40000000):
  Calls Tryz.prog 41 #[.pointer (some ⟨X.p,0,none⟩),.agg #[a,b,c,u]] w fun e w'=>Ran X (ls++(nodeP X.iv X.ic q ls.length++[(35,X.ic (tx s),none')])) w e w':=by
 obtain⟨g,cap,z0,z1,z2,z3,Sq,hv0,hg0,f0,f1,f2,f3,iq⟩:=kids1 hN
 simp at hv0
 obtain⟨rfl,rfl,rfl,rfl⟩:=hv0
 obtain⟨aoq,capq,rfl,rfl,rfl,rfl⟩:=node_vals iq
 obtain⟨fa,hfa⟩:=hid_eq (nodeP X.iv X.ic q ls.length)
 rw[← hfa.out] at hB ⊢
 have HB:Hid ((ls++fa).length+1≤40000000):=by show _≤_;simp only[List.length_append,List.length_cons,List.length_nil] at hB ⊢;omega
 have HA:Hid (At X w [(nb w 34 n s g 1 cap)] ls (w.alloc (.cells #[.int .i64 34,.int .i64 n,.string ⟨s.toArray⟩,.slice (some ⟨g,0,none⟩) 1 cap] 51))):=(at_none hW).more _ _;have f0':=HA.out.cell f0;have f1':=HA.out.cell f1;have f2':=HA.out.cell f2;have f3':=HA.out.cell f3;clear hW hN hB
 go_enter Tryz.func41,Tryz.ntmps41
 go_wp2_with (go_at_call 17;refine hold ?_)
 refine Calls.mono (at_e (x:=fa) hq HA.out iq hfa.out (by have:=HB.out;omega)) ?_;clear f0' f1' f2' f3';rintro e w1 ⟨rfl,hK⟩;have H1:Hid (At X w [(nb w 34 n s g 1 cap)] (ls++fa) w1):=hK
 obtain⟨jj,hjj⟩:=hid_eq (ls++fa).length
 clear hK HA;have H3:Hid (At X w [(nb w 34 n s g 1 cap)] (ls++fa) w1.drew):=H1.out.later (Below.refl _ _).drew;have p2:=H3.out.box (b:=(nb w 34 n s g 1 cap)) (by simp) 2 rfl;have q0:=H3.out.names.2;have CN:Hid _:=(at_where H3.out (tx s)).2;have CALL:Hid (Calls Tryz.prog 18 #[.pointer (some ⟨X.p,0,none⟩),.int .i64 35,.int .i64 (X.ic (tx s)),.string ⟨#[]⟩] w1.drew fun e w'=>e=.returned (.int .i64 jj)∧At X w [(nb w 34 n s g 1 cap)] (ls++fa++[(35,X.ic (tx s),none')]) w'):=at_put H3.out (by have:=HB.out;omega) 35 _ none' hjj.out;clear H1 H3;unfold tx at CN;go_wp2_with fail
 go_region_with (first
  | (go_at_call 74;refine Calls.mono CN.out ?_;rintro e w3 ⟨rfl,rfl⟩)
  | (go_at_call 18;refine Calls.mono CALL.out ?_;rintro e w4 ⟨rfl,h5⟩;have H5:=(show Hid (At X w [(nb w 34 n s g 1 cap)] (ls++fa++[(35,X.ic (tx s),none')]) w4) from h5);clear h5))
 all_goals
  clear CALL CN;go_wp2_with fail;refine bodyPost_end (v:=.tuple #[]) ?_ rfl (H5.out.ends (by simp));simp[results,Tryz.results41]

theorem just1 {p:Int→Bool}{ks:List Data}(h:justB [p] (ks.map opOf)=true):∃ k0,ks=[k0]∧p (opOf k0)=true:=by
 match ks,h with
 | [],h=>simp[justB] at h
 | [k0],h=>simp[justB] at h;exact⟨k0,rfl,h⟩
 | _::_::_,h=>simp[justB] at h
theorem just0 {ks:List Data}(h:justB [] (ks.map opOf)=true):ks=[]:=by
 match ks,h with
 | [],h=>rfl
 | _::_,h=>simp[justB] at h
theorem kid_kinds {op:Int}{ks:List Data}(h:kindB op (ks.map opOf)=true)(he:eB op=true):∀ k∈ks,eB (opOf k)=true:=by
 have h28:1≤op∧op≤28:=by simpa [eB] using he
 unfold kindB at h;have set_e:∀ x,setB x=true→eB x=true:=fun x hx=>by simp[setB,eB] at hx ⊢;omega
 split at h
 ·rw[just0 h];simp
 split at h
 ·obtain⟨k0,rfl,h0⟩:=just1 h
  simpa using h0
 split at h
 ·obtain⟨k0,k1,rfl,h0,h1⟩:=just2 h
  intro k hk;simp at hk;rcases hk with rfl|rfl <;> assumption
 split at h
 ·obtain⟨k0,k1,rfl,h0,h1⟩:=just2 h
  intro k hk;simp at hk;rcases hk with rfl|rfl
  ·exact set_e _ h0
  ·exact h1
 split at h
 ·intro k hk
  rw[List.all_map,List.all_eq_true] at h
  exact h k hk
 rw[if_neg (by omega),if_neg (by omega),if_neg (by omega)] at h
 cases h

set_option maxHeartbeats 1000000 in
theorem nodeOk {X:Fx}:∀ (m:Nat) (t:Data),cnt t≤m→cnt t≤1048577→allB t=true→(eB (opOf t)=true→EOk X t)∧(stB (opOf t)=true→StOk X t)
 | 0,t,h,_,_=>by rw[cnt_kids] at h;omega
 | m+1,t,h,hb,hall=>by
  have key:∀ k∈kidsOf t,(eB (opOf k)=true→EOk X k)∧(stB (opOf k)=true→StOk X k):=fun k hk=>by
   have c1:=cnts_mem hk;have c2:=cnt_kids t;exact nodeOk m k (by omega) (by omega) (all_kids hall k hk)
  have gkey:∀ k∈kidsOf t,∀ q∈kidsOf k,(eB (opOf q)=true→EOk X q)∧(stB (opOf q)=true→StOk X q):=fun k hk q hq=>by
   have c1:=cnts_mem hk;have c2:=cnt_kids t;have c3:=cnts_mem hq;have c4:=cnt_kids k;exact nodeOk m q (by omega) (by omega) (all_kids (all_kids hall k hk) q hq)
  have hkl:(kidsOf t).length≤1048577:=by have:=cnts_len (kidsOf t);have:=cnt_kids t;omega
  have gkl:∀ k∈kidsOf t,(kidsOf k).length≤1048577:=fun k hk=>by have:=cnts_mem hk;have:=cnt_kids t;have:=cnt_kids k;have:=cnts_len (kidsOf k);omega
  constructor
  ·intro he ls w S a b c u hW hN hB
   obtain⟨op,n,s,ks,rfl⟩:=node_node hN
   rw[kids_nd] at key gkey hkl gkl
   rw[op_nd] at he
   rw[all_nd,Bool.and_eq_true] at hall
   have hnode:=hall.1;unfold nodeB at hnode
   rw[Bool.and_eq_true,op_nd,kids_nd] at hnode
   have hkind:=hnode.2;have hke:=kid_kinds hkind he;have ok:∀ k∈ks,EOk X k:=fun k hk=>(key k hk).1 (hke k hk);have hop:1≤op∧op≤28:=by simpa [eB] using he
   rw[nodeP_nd] at hB ⊢
   obtain⟨ao,cap,xs,he2,-,-,-⟩:=node_parts hN
   simp at he2
   obtain⟨rfl,rfl,rfl,rfl⟩:=he2
   have hWa:∀ o,Wk X ls (w.alloc o):=fun o=>hW.later ((Below.refl _ _).alloc (Nat.le_refl _) o)
   by_cases h24:op=24
   ·subst h24
    obtain⟨k0,k1,rfl,-,-⟩:=just2 (p:=eB) (q:=eB) (by simpa [kindB] using hkind)
    exact vE24 hW fun o=>sl14And (ok k0 (by simp)) (ok k1 (by simp)) (hWa o) hN hB
   by_cases h25:op=25
   ·subst h25
    obtain⟨k0,k1,rfl,-,-⟩:=just2 (p:=eB) (q:=eB) (by simpa [kindB] using hkind)
    exact vE25 hW fun o=>sl14Or (ok k0 (by simp)) (ok k1 (by simp)) (hWa o) hN hB
   by_cases h21:op=21
   ·subst h21
    obtain⟨k0,k1,rfl,-,-⟩:=just2 (p:=eB) (q:=eB) (by simpa [kindB] using hkind)
    exact sFits (ok k0 (by simp)) hW hN hB
   by_cases h26:op=26
   ·subst h26
    obtain⟨k0,k1,rfl,j0,-⟩:=just2 (p:=setB) (q:=eB) (by simpa [kindB] using hkind)
    obtain⟨_,_,_,_,_,_,_,_,_,_,_,_,T⟩:=kids2 hN
    obtain⟨op0,n0,s0,ks0,rfl⟩:=node_node T.k0
    have hk0:=all_kids (t:=nd 26 n s [nd op0 n0 s0 ks0,k1]) (by rw[all_nd,Bool.and_eq_true];exact hall) (nd op0 n0 s0 ks0) (by simp[kids_nd])
    rw[all_nd,Bool.and_eq_true] at hk0
    have hn0:=hk0.1;unfold nodeB at hn0
    rw[Bool.and_eq_true,op_nd,kids_nd] at hn0
    have hkd0:=hn0.2
    rw[op_nd] at j0
    have j0':op0=4∨op0=5:=by simpa [setB] using j0
    rcases j0' with rfl|rfl
    ·obtain rfl:=just0 (ks:=ks0) (by simpa [kindB] using hkd0);have e1:opV X.iv X.ic 26 n s [nd 4 n0 s0 [],k1] ([nd 4 n0 s0 [],k1].map (comp X.iv X.ic)) ls.length=nodeP X.iv X.ic k1 ls.length++[(4,X.iv (tx s0),none')]:=by
      have e0:opV X.iv X.ic 26 n s [nd 4 n0 s0 [],k1] ([nd 4 n0 s0 [],k1].map (comp X.iv X.ic)) ls.length=seqs [(comp X.iv X.ic (nd 4 n0 s0 [])).1,nodeP X.iv X.ic k1] ls.length++[(4,X.iv (tx s0),none')]:=rfl
      rw[e0,comp_kids]
      simp[seqs,seqOf]
     rw[e1] at hB ⊢
     exact vE26 hW fun o=>sSet26V (ok k1 (by simp)) (hWa o) hN hB
    ·obtain⟨q,rfl,jq⟩:=just1 (ks:=ks0) (p:=eB) (by simpa [kindB] using hkd0)
     have e1:opV X.iv X.ic 26 n s [nd 5 n0 s0 [q],k1] ([nd 5 n0 s0 [q],k1].map (comp X.iv X.ic)) ls.length=nodeP X.iv X.ic q ls.length++nodeP X.iv X.ic k1 (ls.length+(nodeP X.iv X.ic q ls.length).length)++[(7,X.ic (tx s0),none')]:=by
      have e0:opV X.iv X.ic 26 n s [nd 5 n0 s0 [q],k1] ([nd 5 n0 s0 [q],k1].map (comp X.iv X.ic)) ls.length=seqs [(comp X.iv X.ic (nd 5 n0 s0 [q])).1,nodeP X.iv X.ic k1] ls.length++[(7,X.ic (tx s0),none')]:=rfl
      rw[e0,comp_kids]
      simp[seqs,seqOf,nodeP]
     rw[e1] at hB ⊢
     exact vE26 hW fun o=>sSet26C ((gkey (nd 5 n0 s0 [q]) (by simp) q (by rw[kids_nd];simp)).1 jq) (ok k1 (by simp)) (hWa o) hN hB
   by_cases h27:op=27
   ·subst h27
    obtain⟨k0,k1,rfl,j0,-⟩:=just2 (p:=setB) (q:=eB) (by simpa [kindB] using hkind)
    obtain⟨_,_,_,_,_,_,_,_,_,_,_,_,T⟩:=kids2 hN
    obtain⟨op0,n0,s0,ks0,rfl⟩:=node_node T.k0
    have hk0:=all_kids (t:=nd 27 n s [nd op0 n0 s0 ks0,k1]) (by rw[all_nd,Bool.and_eq_true];exact hall) (nd op0 n0 s0 ks0) (by simp[kids_nd])
    rw[all_nd,Bool.and_eq_true] at hk0
    have hn0:=hk0.1;unfold nodeB at hn0
    rw[Bool.and_eq_true,op_nd,kids_nd] at hn0
    have hkd0:=hn0.2
    rw[op_nd] at j0
    have j0':op0=4∨op0=5:=by simpa [setB] using j0
    rcases j0' with rfl|rfl
    ·obtain rfl:=just0 (ks:=ks0) (by simpa [kindB] using hkd0);have e1:opV X.iv X.ic 27 n s [nd 4 n0 s0 [],k1] ([nd 4 n0 s0 [],k1].map (comp X.iv X.ic)) ls.length=nodeP X.iv X.ic k1 ls.length++[(5,X.iv (tx s0),none')]:=by
      have e0:opV X.iv X.ic 27 n s [nd 4 n0 s0 [],k1] ([nd 4 n0 s0 [],k1].map (comp X.iv X.ic)) ls.length=seqs [(comp X.iv X.ic (nd 4 n0 s0 [])).1,nodeP X.iv X.ic k1] ls.length++[(5,X.iv (tx s0),none')]:=rfl
      rw[e0,comp_kids]
      simp[seqs,seqOf]
     rw[e1] at hB ⊢
     exact vE27 hW fun o=>sSet27V (ok k1 (by simp)) (hWa o) hN hB
    ·obtain⟨q,rfl,jq⟩:=just1 (ks:=ks0) (p:=eB) (by simpa [kindB] using hkd0)
     have e1:opV X.iv X.ic 27 n s [nd 5 n0 s0 [q],k1] ([nd 5 n0 s0 [q],k1].map (comp X.iv X.ic)) ls.length=nodeP X.iv X.ic q ls.length++nodeP X.iv X.ic k1 (ls.length+(nodeP X.iv X.ic q ls.length).length)++[(8,X.ic (tx s0),none')]:=by
      have e0:opV X.iv X.ic 27 n s [nd 5 n0 s0 [q],k1] ([nd 5 n0 s0 [q],k1].map (comp X.iv X.ic)) ls.length=seqs [(comp X.iv X.ic (nd 5 n0 s0 [q])).1,nodeP X.iv X.ic k1] ls.length++[(8,X.ic (tx s0),none')]:=rfl
      rw[e0,comp_kids]
      simp[seqs,seqOf,nodeP]
     rw[e1] at hB ⊢
     exact vE27 hW fun o=>sSet27C ((gkey (nd 5 n0 s0 [q]) (by simp) q (by rw[kids_nd];simp)).1 jq) (ok k1 (by simp)) (hWa o) hN hB
   have hE:EOp op:=by unfold EOp;omega
   have e1:opV X.iv X.ic op n s ks (ks.map (comp X.iv X.ic)) ls.length=seqOf X.iv X.ic ks ls.length++[wordV X.iv X.ic op n s ks.length]:=by
    unfold opV
    rw[if_neg (by omega),if_neg (by omega),if_neg (by omega),if_neg (by omega),if_neg h24,if_neg h25,if_neg (by omega),if_neg h21]
    rfl
   rw[e1] at hB ⊢
   exact sPlain hE ok hkl hW hN hB
  ·intro he ls w S a b c u hW hN hB
   obtain⟨op,n,s,ks,rfl⟩:=node_node hN
   rw[kids_nd] at key gkey hkl gkl
   rw[op_nd] at he
   have hparts:=hall
   rw[all_nd,Bool.and_eq_true] at hparts
   have hnode:=hparts.1;unfold nodeB at hnode
   rw[Bool.and_eq_true,op_nd,kids_nd] at hnode
   have hkind:=hnode.2;have hop:29≤op∧op≤35:=by simpa [stB] using he
   have hkal:∀ k∈ks,allB k=true:=by
    have:=hparts.2
    rw[alls_all,List.all_eq_true] at this
    exact this
   have bk:∀ k∈ks,blB (opOf k)=true→BlOk X k:=fun k hk hbl=>by
    refine sBlock (fun q hq=>(gkey k hk q hq).2 ?_) (gkl k hk);have h29:opOf k=29:=by simpa [blB] using hbl
    have hka:=hkal k hk;cases k <;> simp[allB] at hka
    rename_i ks' lab'
    have h2:=hka.1;unfold nodeB at h2
    rw[Bool.and_eq_true] at h2
    have h3:=h2.2
    rw[h29] at h3
    have h4:((kidsOf (Data.slice ks' lab')).map opOf).all stB=true:=by simpa [kindB] using h3
    rw[List.all_map,List.all_eq_true] at h4
    exact h4 q hq
   rw[nodeP_nd] at hB ⊢
   obtain⟨ao,cap,xs,he2,-,-,-⟩:=node_parts hN
   simp at he2
   obtain⟨rfl,rfl,rfl,rfl⟩:=he2
   have hWa:∀ o,Wk X ls (w.alloc o):=fun o=>hW.later ((Below.refl _ _).alloc (Nat.le_refl _) o)
   by_cases h29:op=29
   ·subst h29;have h4:(ks.map opOf).all stB=true:=by simpa [kindB] using hkind
    rw[List.all_map,List.all_eq_true] at h4
    exact vStmt29 hW fun o=>sBlockN (fun k hk=>(key k hk).2 (h4 k hk)) hkl (hWa o) hN hB
   by_cases h30:op=30
   ·subst h30;have h4:(ks.map opOf).all eB=true:=by simpa [kindB] using hkind
    rw[List.all_map,List.all_eq_true] at h4
    have e1:opV X.iv X.ic 30 n s ks (ks.map (comp X.iv X.ic)) ls.length=(if ks.isEmpty then [(1,0,none'),(9,0,none'),(33,0,none')] else printOf X.iv X.ic ks ls.length)++[(34,0,none')]:=by
     unfold opV printOf;simp
    rw[e1] at hB ⊢
    exact vStmt30 hW fun o=>sPrint (fun k hk=>(key k hk).1 (h4 k hk)) hkl (hWa o) hN hB
   by_cases h31:op=31
   ·subst h31;have hk':justB [eB,blB] (ks.map opOf)=true∨justB [eB,blB,blB] (ks.map opOf)=true:=by simpa [kindB] using hkind
    rcases hk' with hk'|hk'
    ·obtain⟨k0,k1,rfl,j0,j1⟩:=just2 hk'
     obtain⟨_,_,_,_,_,_,_,_,_,_,_,_,T⟩:=kids2 hN
     have e1:opV X.iv X.ic 31 n s [k0,k1] ([k0,k1].map (comp X.iv X.ic)) ls.length=ifV (nodeP X.iv X.ic k0) (seqOf X.iv X.ic (kidsOf k1)) ls.length:=by
      rw[← kids_first X.iv X.ic T.k1]
      rfl
     rw[e1] at hB ⊢
     exact vStmt31 hW fun o=>sl14If ((key k0 (by simp)).1 j0) (bk k1 (by simp) j1) (hWa o) hN hB
    ·obtain⟨k0,k1,k2,rfl,j0,j1,j2⟩:=just3 hk'
     obtain⟨_,_,_,_,_,_,_,_,_,_,_,_,_,_,_,_,_,_,_,_,_,_,_,_,_,_,_,_,_,_,_,_,i1,i2,_⟩:=kids3 hN
     have e1:opV X.iv X.ic 31 n s [k0,k1,k2] ([k0,k1,k2].map (comp X.iv X.ic)) ls.length=elseV (nodeP X.iv X.ic k0) (seqOf X.iv X.ic (kidsOf k1)) (seqOf X.iv X.ic (kidsOf k2)) ls.length:=by
      rw[← kids_first X.iv X.ic i1,← kids_first X.iv X.ic i2]
      rfl
     rw[e1] at hB ⊢
     exact vStmt31 hW fun o=>sl14If3 ((key k0 (by simp)).1 j0) (bk k1 (by simp) j1) (bk k2 (by simp) j2) (hWa o) hN hB
   by_cases h32:op=32
   ·subst h32
    obtain⟨k0,k1,rfl,j0,j1⟩:=just2 (p:=eB) (q:=blB) (by simpa [kindB] using hkind)
    obtain⟨_,_,_,_,_,_,_,_,_,_,_,_,T⟩:=kids2 hN
    have e1:opV X.iv X.ic 32 n s [k0,k1] ([k0,k1].map (comp X.iv X.ic)) ls.length=whileV (nodeP X.iv X.ic k0) (seqOf X.iv X.ic (kidsOf k1)) ls.length:=by
     rw[← kids_first X.iv X.ic T.k1]
     rfl
    rw[e1] at hB ⊢
    exact vStmt32 hW fun o=>sl14While ((key k0 (by simp)).1 j0) (bk k1 (by simp) j1) (hWa o) hN hB
   by_cases h33:op=33
   ·subst h33;obtain rfl:=just0 (ks:=ks) (by simpa [kindB] using hkind);have e1:opV X.iv X.ic 33 n s [] (([]:List Data).map (comp X.iv X.ic)) ls.length=[(36,0,none')]:=by
     rfl
    rw[e1] at hB ⊢
    exact sNext hW (by simpa using hB)
   by_cases h34:op=34
   ·subst h34
    obtain⟨q,rfl,j0⟩:=just1 (p:=eB) (by simpa [kindB] using hkind)
    have e1:opV X.iv X.ic 34 n s [q] ([q].map (comp X.iv X.ic)) ls.length=nodeP X.iv X.ic q ls.length++[(35,X.ic (tx s),none')]:=by
     have e0:opV X.iv X.ic 34 n s [q] ([q].map (comp X.iv X.ic)) ls.length=(nodeP X.iv X.ic q ls.length++[])++[(35,X.ic (tx s),none')]:=rfl
     rw[e0,List.append_nil]
    rw[e1] at hB ⊢
    exact sDrop ((key q (by simp)).1 j0) hW hN hB
   have h35:op=35:=by omega
   subst h35
   obtain⟨q,rfl,j0⟩:=just1 (p:=eB) (by simpa [kindB] using hkind)
   have e1:opV X.iv X.ic 35 n s [q] ([q].map (comp X.iv X.ic)) ls.length=nodeP X.iv X.ic q ls.length++[(32,0,none')]:=by
    have e0:opV X.iv X.ic 35 n s [q] ([q].map (comp X.iv X.ic)) ls.length=(nodeP X.iv X.ic q ls.length++[])++[(32,0,none')]:=rfl
    rw[e0,List.append_nil]
   rw[e1] at hB ⊢
   exact sDo ((key q (by simp)).1 j0) hW hN hB

end Sp
end Go.Proofs.YtllbachngocmnaaGreatDoor
