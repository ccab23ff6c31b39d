/-
  A value is set: the specification.
-/
import Derived.Test.YtllbachngocmnaaGreatDoorP12
namespace Go.Proofs.YtllbachngocmnaaGreatDoor
open Go.RowKit
namespace Sp
open St (Vl encV)
open Nd Ty Cm
open Pg (RdT)
open Oc (hold Blk)

theorem kids1 {W:World}{op n:Int}{s:List UInt8}{k0:Data}{S:Nat→Prop}{cs:List Value}(h:NodeIs W (nd op n s [k0]) S cs):∃ g cap x0 x1 x2 x3 S0,cs=[.int .i64 op,.int .i64 n,.string ⟨s.toArray⟩,.slice (some ⟨g,0,none⟩) 1 cap]∧g<W.heap.size ∧
  W.cell? ⟨g,0,none⟩=some x0∧W.cell? ⟨g,1,none⟩=some x1∧W.cell? ⟨g,2,none⟩=some x2∧W.cell? ⟨g,3,none⟩=some x3∧NodeIs W k0 S0 [x0,x1,x2,x3]:=by
 obtain⟨ao,cap,xs,rfl,h1,h2,h3⟩:=node_parts h
 obtain⟨S0,T,c1,c2,rfl,hk0,he,hs0,hsT⟩:=h3
 obtain⟨g,e,hg,hc⟩:=row_cells h1 (show 0<_ by simp)
 subst e;simp only[NodesIs] at he;subst he;have l1:=node_len hk0
 match c1,l1 with
 | [x0,x1,x2,x3],_=>exact⟨g,cap,x0,x1,x2,x3,S0,rfl,hg,hc 0 _ rfl,hc 1 _ rfl,hc 2 _ rfl,hc 3 _ rfl,hk0⟩
theorem at_where {X:Fx}{w0:World}{bxs:List (Nat × TypeId × List Value)}{L:List Vl}{w:World}(h:At X w0 bxs L w)(s:ByteArray):
  (Calls Tryz.prog 74 #[.slice X.va X.vars.length X.vc,.string s] w fun e w'=>e=.returned (.int .i64 (X.iv s))∧w'=w)∧(Calls Tryz.prog 74 #[.slice X.ca X.cells.length X.cc,.string s] w fun e w'=>e=.returned (.int .i64 (X.ic s))∧w'=w) :=
 ⟨sWhere (h.wk.vs.below h.wk.below) h.wk.vn s,sWhere (h.wk.cs.below h.wk.below) h.wk.cn s⟩

set_option maxHeartbeats 1000000 in
set_option maxRecDepth 100000 in
theorem sSet26V {X:Fx}{n n0:Int}{s s0:List UInt8}{k1:Data}(hk1:EOk X k1){ls:List Vl}{w:World}{S:Nat→Prop}{a b c u:Value}(hW:Wk X ls w)(hN:NodeIs X.W (nd 26 n s [(nd 4 n0 s0 []),k1]) S [a,b,c,u])(hB:(ls++(nodeP X.iv X.ic k1 (ls.length)++[(4,X.iv (tx s0),none')])).length≤40000000):
  Calls Tryz.prog 42 #[.pointer (some ⟨X.p,0,none⟩),.agg #[a,b,c,u]] w fun e w'=>Ran X (ls++(nodeP X.iv X.ic k1 (ls.length)++[(4,X.iv (tx s0),none')])) w e w':=by
 obtain⟨g,cap,x0,x1,x2,x3,y0,y1,y2,y3,S0,S1,T⟩:=kids2 hN
 have hv:=T.val;simp at hv
 obtain⟨rfl,rfl,rfl,rfl⟩:=hv
 obtain⟨ao0,cap0,xs0,hv0,-,-,-⟩:=node_parts T.k0
 simp at hv0
 obtain⟨rfl,rfl,rfl,rfl⟩:=hv0
 obtain⟨ao1,cap1,rfl,rfl,rfl,rfl⟩:=node_vals T.k1
 obtain⟨-,hgl,-,c0,c1,c2,c3,d0,d1,d2,d3,i0,i1,t0,t1⟩:=T
 obtain⟨fc,hfc⟩:=hid_eq (nodeP X.iv X.ic k1 (ls.length))
 rw[← hfc.out] at hB ⊢
 have HB:Hid ((ls++fc).length+1≤40000000):=by show _≤_;simp only[List.length_append,List.length_cons,List.length_nil] at hB ⊢;omega
 have HA:Hid (At X w [(w.heap.size+1,51,[.int .i64 4,.int .i64 n0,.string ⟨s0.toArray⟩,.slice ao0 0 cap0]),(nb w 26 n s g 2 cap)] ls ((w.alloc (.cells #[.int .i64 26,.int .i64 n,.string ⟨s.toArray⟩,.slice (some ⟨g,0,none⟩) 2 cap] 51)).alloc (.cells #[.int .i64 4,.int .i64 n0,.string ⟨s0.toArray⟩,.slice ao0 0 cap0] 51))):=by
  have:=((at_none hW).more 51 [.int .i64 26,.int .i64 n,.string ⟨s.toArray⟩,.slice (some ⟨g,0,none⟩) 2 cap]).more 51 [.int .i64 4,.int .i64 n0,.string ⟨s0.toArray⟩,.slice ao0 0 cap0]
  rw[World.size_alloc] at this
  exact this
 have hb1:=fun o=>(at_none hW).later ((Below.refl _ w).alloc (Nat.le_refl _) o);have c0':=(hb1 (.cells #[.int .i64 26,.int .i64 n,.string ⟨s.toArray⟩,.slice (some ⟨g,0,none⟩) 2 cap] 51)).cell c0;have c1':=(hb1 (.cells #[.int .i64 26,.int .i64 n,.string ⟨s.toArray⟩,.slice (some ⟨g,0,none⟩) 2 cap] 51)).cell c1;have c2':=(hb1 (.cells #[.int .i64 26,.int .i64 n,.string ⟨s.toArray⟩,.slice (some ⟨g,0,none⟩) 2 cap] 51)).cell c2;have c3':=(hb1 (.cells #[.int .i64 26,.int .i64 n,.string ⟨s.toArray⟩,.slice (some ⟨g,0,none⟩) 2 cap] 51)).cell c3;have d0':=HA.out.cell d0;have d1':=HA.out.cell d1;have d2':=HA.out.cell d2;have d3':=HA.out.cell d3;clear hW hN hB hb1
 go_enter Tryz.func42,Tryz.ntmps42
 go_wp2_with (first|(go_at_call 75;(first|refine (sBit true _).mono ?_|refine (sBit false _).mono ?_);rintro e w9 ⟨rfl,rfl⟩;simp only[Bool.false_eq_true,if_false])|(go_at_call 17;refine hold ?_))
 refine Calls.mono (at_e (x:=fc) hk1 HA.out i1 hfc.out (by have:=HB.out;omega)) ?_;clear c0' c1' c2' c3' d0' d1' d2' d3';rintro e w2 ⟨rfl,hK⟩;have H2:Hid (At X w [(w.heap.size+1,51,[.int .i64 4,.int .i64 n0,.string ⟨s0.toArray⟩,.slice ao0 0 cap0]),(nb w 26 n s g 2 cap)] (ls++fc) w2):=hK;have H3:Hid (At X w [(w.heap.size+1,51,[.int .i64 4,.int .i64 n0,.string ⟨s0.toArray⟩,.slice ao0 0 cap0]),(nb w 26 n s g 2 cap)] (ls++fc) w2.drew):=H2.out.later (Below.refl _ _).drew;have p2:=H3.out.box (b:=(w.heap.size+1,51,[.int .i64 4,.int .i64 n0,.string ⟨s0.toArray⟩,.slice ao0 0 cap0])) (by simp) 2 rfl;have q0:=H3.out.names.1;have CN:Hid _:=(at_where H3.out (tx s0)).1
 obtain⟨jj,hjj⟩:=hid_eq (ls++fc).length
 have CALL:Hid (Calls Tryz.prog 18 #[.pointer (some ⟨X.p,0,none⟩),.int .i64 4,.int .i64 (X.iv (tx s0)),.string ⟨#[]⟩] w2.drew fun e w'=>e=.returned (.int .i64 jj)∧At X w [(w.heap.size+1,51,[.int .i64 4,.int .i64 n0,.string ⟨s0.toArray⟩,.slice ao0 0 cap0]),(nb w 26 n s g 2 cap)] (ls++fc++[(4,X.iv (tx s0),none')]) w'):=at_put H3.out (by have:=HB.out;omega) 4 _ none' hjj.out;clear hK HA H2 H3;unfold tx at CN;go_wp2_with fail
 go_region_with (first
  | (go_at_call 74;refine Calls.mono CN.out ?_;rintro e w3 ⟨rfl,rfl⟩)
  | (go_at_call 18;refine Calls.mono CALL.out ?_;rintro e w4 ⟨rfl,h5⟩;have H5:=(show Hid (At X w [(w.heap.size+1,51,[.int .i64 4,.int .i64 n0,.string ⟨s0.toArray⟩,.slice ao0 0 cap0]),(nb w 26 n s g 2 cap)] (ls++fc++[(4,X.iv (tx s0),none')]) w4) from h5);clear h5))
 all_goals
  clear CALL CN;go_wp2_with fail
  first
   | (refine bodyPost_end (v:=.tuple #[]) ?_ rfl (H5.out.ends (by simp));simp[results,Tryz.results42])
   | (refine bodyPost_ret (v:=.tuple #[]) ?_ rfl (H5.out.ends (by simp));simp[results,Tryz.results42])

set_option maxHeartbeats 1000000 in
set_option maxRecDepth 100000 in
theorem sSet26C {X:Fx}{n n0:Int}{s s0:List UInt8}{q k1:Data}(hq:EOk X q)(hk1:EOk X k1){ls:List Vl}{w:World}{S:Nat→Prop}{a b c u:Value}(hW:Wk X ls w)(hN:NodeIs X.W (nd 26 n s [(nd 5 n0 s0 [q]),k1]) S [a,b,c,u])(hB:(ls++(nodeP X.iv X.ic q ls.length++nodeP X.iv X.ic k1 (ls.length+(nodeP X.iv X.ic q ls.length).length)++[(7,X.ic (tx s0),none')])).length≤40000000):
  Calls Tryz.prog 42 #[.pointer (some ⟨X.p,0,none⟩),.agg #[a,b,c,u]] w fun e w'=>Ran X (ls++(nodeP X.iv X.ic q ls.length++nodeP X.iv X.ic k1 (ls.length+(nodeP X.iv X.ic q ls.length).length)++[(7,X.ic (tx s0),none')])) w e w':=by
 obtain⟨g,cap,x0,x1,x2,x3,y0,y1,y2,y3,S0,S1,T⟩:=kids2 hN
 have hv:=T.val;simp at hv
 obtain⟨rfl,rfl,rfl,rfl⟩:=hv
 obtain⟨g0,cap0,z0,z1,z2,z3,Sq,hv0,hg0,f0,f1,f2,f3,iq⟩:=kids1 T.k0
 simp at hv0
 obtain⟨rfl,rfl,rfl,rfl⟩:=hv0
 obtain⟨aoq,capq,rfl,rfl,rfl,rfl⟩:=node_vals iq
 obtain⟨ao1,cap1,rfl,rfl,rfl,rfl⟩:=node_vals T.k1
 obtain⟨-,hgl,-,c0,c1,c2,c3,d0,d1,d2,d3,i0,i1,t0,t1⟩:=T
 obtain⟨fa,hfa⟩:=hid_eq (nodeP X.iv X.ic q ls.length)
 rw[← hfa.out] at hB ⊢
 obtain⟨fc,hfc⟩:=hid_eq (nodeP X.iv X.ic k1 (ls.length+fa.length))
 rw[← hfc.out] at hB ⊢
 have HB:Hid (((ls++fa)++fc).length+1≤40000000):=by show _≤_;simp only[List.length_append,List.length_cons,List.length_nil] at hB ⊢;omega
 have HA:Hid (At X w [(w.heap.size+1,51,[.int .i64 5,.int .i64 n0,.string ⟨s0.toArray⟩,.slice (some ⟨g0,0,none⟩) 1 cap0]),(nb w 26 n s g 2 cap)] ls ((w.alloc (.cells #[.int .i64 26,.int .i64 n,.string ⟨s.toArray⟩,.slice (some ⟨g,0,none⟩) 2 cap] 51)).alloc (.cells #[.int .i64 5,.int .i64 n0,.string ⟨s0.toArray⟩,.slice (some ⟨g0,0,none⟩) 1 cap0] 51))):=by
  have:=((at_none hW).more 51 [.int .i64 26,.int .i64 n,.string ⟨s.toArray⟩,.slice (some ⟨g,0,none⟩) 2 cap]).more 51 [.int .i64 5,.int .i64 n0,.string ⟨s0.toArray⟩,.slice (some ⟨g0,0,none⟩) 1 cap0]
  rw[World.size_alloc] at this
  exact this
 have hb1:=fun o=>(at_none hW).later ((Below.refl _ w).alloc (Nat.le_refl _) o);have c0':=(hb1 (.cells #[.int .i64 26,.int .i64 n,.string ⟨s.toArray⟩,.slice (some ⟨g,0,none⟩) 2 cap] 51)).cell c0;have c1':=(hb1 (.cells #[.int .i64 26,.int .i64 n,.string ⟨s.toArray⟩,.slice (some ⟨g,0,none⟩) 2 cap] 51)).cell c1;have c2':=(hb1 (.cells #[.int .i64 26,.int .i64 n,.string ⟨s.toArray⟩,.slice (some ⟨g,0,none⟩) 2 cap] 51)).cell c2;have c3':=(hb1 (.cells #[.int .i64 26,.int .i64 n,.string ⟨s.toArray⟩,.slice (some ⟨g,0,none⟩) 2 cap] 51)).cell c3;have f0':=HA.out.cell f0;have f1':=HA.out.cell f1;have f2':=HA.out.cell f2;have f3':=HA.out.cell f3;clear hW hN hB hb1
 go_enter Tryz.func42,Tryz.ntmps42
 go_wp2_with (first|(go_at_call 75;(first|refine (sBit true _).mono ?_|refine (sBit false _).mono ?_);rintro e w9 ⟨rfl,rfl⟩;simp only[Bool.false_eq_true,if_false])|(go_at_call 17;refine hold ?_))
 refine Calls.mono (at_e (x:=fa) hq HA.out iq hfa.out (by have:=HB.out;simp only[List.length_append] at this ⊢;omega)) ?_;clear c0' c1' c2' c3' f0' f1' f2' f3';rintro e w1 ⟨rfl,hK⟩;have H1:Hid (At X w [(w.heap.size+1,51,[.int .i64 5,.int .i64 n0,.string ⟨s0.toArray⟩,.slice (some ⟨g0,0,none⟩) 1 cap0]),(nb w 26 n s g 2 cap)] (ls++fa) w1):=hK;have p3:=H1.out.box (b:=(nb w 26 n s g 2 cap)) (by simp) 3 rfl;have d0':=H1.out.cell d0;have d1':=H1.out.cell d1;have d2':=H1.out.cell d2;have d3':=H1.out.cell d3;clear hK HA
 go_wp2_with (go_at_call 17;refine hold ?_)
 refine Calls.mono (at_e (x:=fc) hk1 H1.out i1 (by rw[hfc.out];congr 1;simp) (by have:=HB.out;omega)) ?_;clear d0' d1' d2' d3' p3;rintro e w2 ⟨rfl,hK⟩;have H2:Hid (At X w [(w.heap.size+1,51,[.int .i64 5,.int .i64 n0,.string ⟨s0.toArray⟩,.slice (some ⟨g0,0,none⟩) 1 cap0]),(nb w 26 n s g 2 cap)] ((ls++fa)++fc) w2):=hK;have H3:Hid (At X w [(w.heap.size+1,51,[.int .i64 5,.int .i64 n0,.string ⟨s0.toArray⟩,.slice (some ⟨g0,0,none⟩) 1 cap0]),(nb w 26 n s g 2 cap)] ((ls++fa)++fc) w2.drew):=H2.out.later (Below.refl _ _).drew;have p2:=H3.out.box (b:=(w.heap.size+1,51,[.int .i64 5,.int .i64 n0,.string ⟨s0.toArray⟩,.slice (some ⟨g0,0,none⟩) 1 cap0])) (by simp) 2 rfl;have q0:=H3.out.names.2;have CN:Hid _:=(at_where H3.out (tx s0)).2
 obtain⟨jj,hjj⟩:=hid_eq ((ls++fa)++fc).length
 have CALL:Hid (Calls Tryz.prog 18 #[.pointer (some ⟨X.p,0,none⟩),.int .i64 7,.int .i64 (X.ic (tx s0)),.string ⟨#[]⟩] w2.drew fun e w'=>e=.returned (.int .i64 jj)∧At X w [(w.heap.size+1,51,[.int .i64 5,.int .i64 n0,.string ⟨s0.toArray⟩,.slice (some ⟨g0,0,none⟩) 1 cap0]),(nb w 26 n s g 2 cap)] ((ls++fa)++fc++[(7,X.ic (tx s0),none')]) w'):=at_put H3.out (by have:=HB.out;omega) 7 _ none' hjj.out;clear hK H1 H2 H3;unfold tx at CN;go_wp2_with fail
 go_region_with (first
  | (go_at_call 74;refine Calls.mono CN.out ?_;rintro e w3 ⟨rfl,rfl⟩)
  | (go_at_call 18;refine Calls.mono CALL.out ?_;rintro e w4 ⟨rfl,h5⟩;have H5:=(show Hid (At X w [(w.heap.size+1,51,[.int .i64 5,.int .i64 n0,.string ⟨s0.toArray⟩,.slice (some ⟨g0,0,none⟩) 1 cap0]),(nb w 26 n s g 2 cap)] ((ls++fa)++fc++[(7,X.ic (tx s0),none')]) w4) from h5);clear h5))
 all_goals
  clear CALL CN;go_wp2_with fail
  first
   | (refine bodyPost_end (v:=.tuple #[]) ?_ rfl (H5.out.ends (by simp));simp[results,Tryz.results42])
   | (refine bodyPost_ret (v:=.tuple #[]) ?_ rfl (H5.out.ends (by simp));simp[results,Tryz.results42])

set_option maxHeartbeats 1000000 in
set_option maxRecDepth 100000 in
theorem sSet27V {X:Fx}{n n0:Int}{s s0:List UInt8}{k1:Data}(hk1:EOk X k1){ls:List Vl}{w:World}{S:Nat→Prop}{a b c u:Value}(hW:Wk X ls w)(hN:NodeIs X.W (nd 27 n s [(nd 4 n0 s0 []),k1]) S [a,b,c,u])(hB:(ls++(nodeP X.iv X.ic k1 (ls.length)++[(5,X.iv (tx s0),none')])).length≤40000000):
  Calls Tryz.prog 42 #[.pointer (some ⟨X.p,0,none⟩),.agg #[a,b,c,u]] w fun e w'=>Ran X (ls++(nodeP X.iv X.ic k1 (ls.length)++[(5,X.iv (tx s0),none')])) w e w':=by
 obtain⟨g,cap,x0,x1,x2,x3,y0,y1,y2,y3,S0,S1,T⟩:=kids2 hN
 have hv:=T.val;simp at hv
 obtain⟨rfl,rfl,rfl,rfl⟩:=hv
 obtain⟨ao0,cap0,xs0,hv0,-,-,-⟩:=node_parts T.k0
 simp at hv0
 obtain⟨rfl,rfl,rfl,rfl⟩:=hv0
 obtain⟨ao1,cap1,rfl,rfl,rfl,rfl⟩:=node_vals T.k1
 obtain⟨-,hgl,-,c0,c1,c2,c3,d0,d1,d2,d3,i0,i1,t0,t1⟩:=T
 obtain⟨fc,hfc⟩:=hid_eq (nodeP X.iv X.ic k1 (ls.length))
 rw[← hfc.out] at hB ⊢
 have HB:Hid ((ls++fc).length+1≤40000000):=by show _≤_;simp only[List.length_append,List.length_cons,List.length_nil] at hB ⊢;omega
 have HA:Hid (At X w [(w.heap.size+1,51,[.int .i64 4,.int .i64 n0,.string ⟨s0.toArray⟩,.slice ao0 0 cap0]),(nb w 27 n s g 2 cap)] ls ((w.alloc (.cells #[.int .i64 27,.int .i64 n,.string ⟨s.toArray⟩,.slice (some ⟨g,0,none⟩) 2 cap] 51)).alloc (.cells #[.int .i64 4,.int .i64 n0,.string ⟨s0.toArray⟩,.slice ao0 0 cap0] 51))):=by
  have:=((at_none hW).more 51 [.int .i64 27,.int .i64 n,.string ⟨s.toArray⟩,.slice (some ⟨g,0,none⟩) 2 cap]).more 51 [.int .i64 4,.int .i64 n0,.string ⟨s0.toArray⟩,.slice ao0 0 cap0]
  rw[World.size_alloc] at this
  exact this
 have hb1:=fun o=>(at_none hW).later ((Below.refl _ w).alloc (Nat.le_refl _) o);have c0':=(hb1 (.cells #[.int .i64 27,.int .i64 n,.string ⟨s.toArray⟩,.slice (some ⟨g,0,none⟩) 2 cap] 51)).cell c0;have c1':=(hb1 (.cells #[.int .i64 27,.int .i64 n,.string ⟨s.toArray⟩,.slice (some ⟨g,0,none⟩) 2 cap] 51)).cell c1;have c2':=(hb1 (.cells #[.int .i64 27,.int .i64 n,.string ⟨s.toArray⟩,.slice (some ⟨g,0,none⟩) 2 cap] 51)).cell c2;have c3':=(hb1 (.cells #[.int .i64 27,.int .i64 n,.string ⟨s.toArray⟩,.slice (some ⟨g,0,none⟩) 2 cap] 51)).cell c3;have d0':=HA.out.cell d0;have d1':=HA.out.cell d1;have d2':=HA.out.cell d2;have d3':=HA.out.cell d3;clear hW hN hB hb1
 go_enter Tryz.func42,Tryz.ntmps42
 go_wp2_with (first|(go_at_call 75;(first|refine (sBit true _).mono ?_|refine (sBit false _).mono ?_);rintro e w9 ⟨rfl,rfl⟩;simp only[if_true])|(go_at_call 17;refine hold ?_))
 refine Calls.mono (at_e (x:=fc) hk1 HA.out i1 hfc.out (by have:=HB.out;omega)) ?_;clear c0' c1' c2' c3' d0' d1' d2' d3';rintro e w2 ⟨rfl,hK⟩;have H2:Hid (At X w [(w.heap.size+1,51,[.int .i64 4,.int .i64 n0,.string ⟨s0.toArray⟩,.slice ao0 0 cap0]),(nb w 27 n s g 2 cap)] (ls++fc) w2):=hK;have H3:Hid (At X w [(w.heap.size+1,51,[.int .i64 4,.int .i64 n0,.string ⟨s0.toArray⟩,.slice ao0 0 cap0]),(nb w 27 n s g 2 cap)] (ls++fc) w2.drew):=H2.out.later (Below.refl _ _).drew;have p2:=H3.out.box (b:=(w.heap.size+1,51,[.int .i64 4,.int .i64 n0,.string ⟨s0.toArray⟩,.slice ao0 0 cap0])) (by simp) 2 rfl;have q0:=H3.out.names.1;have CN:Hid _:=(at_where H3.out (tx s0)).1
 obtain⟨jj,hjj⟩:=hid_eq (ls++fc).length
 have CALL:Hid (Calls Tryz.prog 18 #[.pointer (some ⟨X.p,0,none⟩),.int .i64 5,.int .i64 (X.iv (tx s0)),.string ⟨#[]⟩] w2.drew fun e w'=>e=.returned (.int .i64 jj)∧At X w [(w.heap.size+1,51,[.int .i64 4,.int .i64 n0,.string ⟨s0.toArray⟩,.slice ao0 0 cap0]),(nb w 27 n s g 2 cap)] (ls++fc++[(5,X.iv (tx s0),none')]) w'):=at_put H3.out (by have:=HB.out;omega) 5 _ none' hjj.out;clear hK HA H2 H3;unfold tx at CN;go_wp2_with fail
 go_region_with (first
  | (go_at_call 74;refine Calls.mono CN.out ?_;rintro e w3 ⟨rfl,rfl⟩)
  | (go_at_call 18;refine Calls.mono CALL.out ?_;rintro e w4 ⟨rfl,h5⟩;have H5:=(show Hid (At X w [(w.heap.size+1,51,[.int .i64 4,.int .i64 n0,.string ⟨s0.toArray⟩,.slice ao0 0 cap0]),(nb w 27 n s g 2 cap)] (ls++fc++[(5,X.iv (tx s0),none')]) w4) from h5);clear h5))
 all_goals
  clear CALL CN;go_wp2_with fail
  first
   | (refine bodyPost_end (v:=.tuple #[]) ?_ rfl (H5.out.ends (by simp));simp[results,Tryz.results42])
   | (refine bodyPost_ret (v:=.tuple #[]) ?_ rfl (H5.out.ends (by simp));simp[results,Tryz.results42])

set_option maxHeartbeats 1000000 in
set_option maxRecDepth 100000 in
theorem sSet27C {X:Fx}{n n0:Int}{s s0:List UInt8}{q k1:Data}(hq:EOk X q)(hk1:EOk X k1){ls:List Vl}{w:World}{S:Nat→Prop}{a b c u:Value}(hW:Wk X ls w)(hN:NodeIs X.W (nd 27 n s [(nd 5 n0 s0 [q]),k1]) S [a,b,c,u])(hB:(ls++(nodeP X.iv X.ic q ls.length++nodeP X.iv X.ic k1 (ls.length+(nodeP X.iv X.ic q ls.length).length)++[(8,X.ic (tx s0),none')])).length≤40000000):
  Calls Tryz.prog 42 #[.pointer (some ⟨X.p,0,none⟩),.agg #[a,b,c,u]] w fun e w'=>Ran X (ls++(nodeP X.iv X.ic q ls.length++nodeP X.iv X.ic k1 (ls.length+(nodeP X.iv X.ic q ls.length).length)++[(8,X.ic (tx s0),none')])) w e w':=by
 obtain⟨g,cap,x0,x1,x2,x3,y0,y1,y2,y3,S0,S1,T⟩:=kids2 hN
 have hv:=T.val;simp at hv
 obtain⟨rfl,rfl,rfl,rfl⟩:=hv
 obtain⟨g0,cap0,z0,z1,z2,z3,Sq,hv0,hg0,f0,f1,f2,f3,iq⟩:=kids1 T.k0
 simp at hv0
 obtain⟨rfl,rfl,rfl,rfl⟩:=hv0
 obtain⟨aoq,capq,rfl,rfl,rfl,rfl⟩:=node_vals iq
 obtain⟨ao1,cap1,rfl,rfl,rfl,rfl⟩:=node_vals T.k1
 obtain⟨-,hgl,-,c0,c1,c2,c3,d0,d1,d2,d3,i0,i1,t0,t1⟩:=T
 obtain⟨fa,hfa⟩:=hid_eq (nodeP X.iv X.ic q ls.length)
 rw[← hfa.out] at hB ⊢
 obtain⟨fc,hfc⟩:=hid_eq (nodeP X.iv X.ic k1 (ls.length+fa.length))
 rw[← hfc.out] at hB ⊢
 have HB:Hid (((ls++fa)++fc).length+1≤40000000):=by show _≤_;simp only[List.length_append,List.length_cons,List.length_nil] at hB ⊢;omega
 have HA:Hid (At X w [(w.heap.size+1,51,[.int .i64 5,.int .i64 n0,.string ⟨s0.toArray⟩,.slice (some ⟨g0,0,none⟩) 1 cap0]),(nb w 27 n s g 2 cap)] ls ((w.alloc (.cells #[.int .i64 27,.int .i64 n,.string ⟨s.toArray⟩,.slice (some ⟨g,0,none⟩) 2 cap] 51)).alloc (.cells #[.int .i64 5,.int .i64 n0,.string ⟨s0.toArray⟩,.slice (some ⟨g0,0,none⟩) 1 cap0] 51))):=by
  have:=((at_none hW).more 51 [.int .i64 27,.int .i64 n,.string ⟨s.toArray⟩,.slice (some ⟨g,0,none⟩) 2 cap]).more 51 [.int .i64 5,.int .i64 n0,.string ⟨s0.toArray⟩,.slice (some ⟨g0,0,none⟩) 1 cap0]
  rw[World.size_alloc] at this
  exact this
 have hb1:=fun o=>(at_none hW).later ((Below.refl _ w).alloc (Nat.le_refl _) o);have c0':=(hb1 (.cells #[.int .i64 27,.int .i64 n,.string ⟨s.toArray⟩,.slice (some ⟨g,0,none⟩) 2 cap] 51)).cell c0;have c1':=(hb1 (.cells #[.int .i64 27,.int .i64 n,.string ⟨s.toArray⟩,.slice (some ⟨g,0,none⟩) 2 cap] 51)).cell c1;have c2':=(hb1 (.cells #[.int .i64 27,.int .i64 n,.string ⟨s.toArray⟩,.slice (some ⟨g,0,none⟩) 2 cap] 51)).cell c2;have c3':=(hb1 (.cells #[.int .i64 27,.int .i64 n,.string ⟨s.toArray⟩,.slice (some ⟨g,0,none⟩) 2 cap] 51)).cell c3;have f0':=HA.out.cell f0;have f1':=HA.out.cell f1;have f2':=HA.out.cell f2;have f3':=HA.out.cell f3;clear hW hN hB hb1
 go_enter Tryz.func42,Tryz.ntmps42
 go_wp2_with (first|(go_at_call 75;(first|refine (sBit true _).mono ?_|refine (sBit false _).mono ?_);rintro e w9 ⟨rfl,rfl⟩;simp only[if_true])|(go_at_call 17;refine hold ?_))
 refine Calls.mono (at_e (x:=fa) hq HA.out iq hfa.out (by have:=HB.out;simp only[List.length_append] at this ⊢;omega)) ?_;clear c0' c1' c2' c3' f0' f1' f2' f3';rintro e w1 ⟨rfl,hK⟩;have H1:Hid (At X w [(w.heap.size+1,51,[.int .i64 5,.int .i64 n0,.string ⟨s0.toArray⟩,.slice (some ⟨g0,0,none⟩) 1 cap0]),(nb w 27 n s g 2 cap)] (ls++fa) w1):=hK;have p3:=H1.out.box (b:=(nb w 27 n s g 2 cap)) (by simp) 3 rfl;have d0':=H1.out.cell d0;have d1':=H1.out.cell d1;have d2':=H1.out.cell d2;have d3':=H1.out.cell d3;clear hK HA
 go_wp2_with (go_at_call 17;refine hold ?_)
 refine Calls.mono (at_e (x:=fc) hk1 H1.out i1 (by rw[hfc.out];congr 1;simp) (by have:=HB.out;omega)) ?_;clear d0' d1' d2' d3' p3;rintro e w2 ⟨rfl,hK⟩;have H2:Hid (At X w [(w.heap.size+1,51,[.int .i64 5,.int .i64 n0,.string ⟨s0.toArray⟩,.slice (some ⟨g0,0,none⟩) 1 cap0]),(nb w 27 n s g 2 cap)] ((ls++fa)++fc) w2):=hK;have H3:Hid (At X w [(w.heap.size+1,51,[.int .i64 5,.int .i64 n0,.string ⟨s0.toArray⟩,.slice (some ⟨g0,0,none⟩) 1 cap0]),(nb w 27 n s g 2 cap)] ((ls++fa)++fc) w2.drew):=H2.out.later (Below.refl _ _).drew;have p2:=H3.out.box (b:=(w.heap.size+1,51,[.int .i64 5,.int .i64 n0,.string ⟨s0.toArray⟩,.slice (some ⟨g0,0,none⟩) 1 cap0])) (by simp) 2 rfl;have q0:=H3.out.names.2;have CN:Hid _:=(at_where H3.out (tx s0)).2
 obtain⟨jj,hjj⟩:=hid_eq ((ls++fa)++fc).length
 have CALL:Hid (Calls Tryz.prog 18 #[.pointer (some ⟨X.p,0,none⟩),.int .i64 8,.int .i64 (X.ic (tx s0)),.string ⟨#[]⟩] w2.drew fun e w'=>e=.returned (.int .i64 jj)∧At X w [(w.heap.size+1,51,[.int .i64 5,.int .i64 n0,.string ⟨s0.toArray⟩,.slice (some ⟨g0,0,none⟩) 1 cap0]),(nb w 27 n s g 2 cap)] ((ls++fa)++fc++[(8,X.ic (tx s0),none')]) w'):=at_put H3.out (by have:=HB.out;omega) 8 _ none' hjj.out;clear hK H1 H2 H3;unfold tx at CN;go_wp2_with fail
 go_region_with (first
  | (go_at_call 74;refine Calls.mono CN.out ?_;rintro e w3 ⟨rfl,rfl⟩)
  | (go_at_call 18;refine Calls.mono CALL.out ?_;rintro e w4 ⟨rfl,h5⟩;have H5:=(show Hid (At X w [(w.heap.size+1,51,[.int .i64 5,.int .i64 n0,.string ⟨s0.toArray⟩,.slice (some ⟨g0,0,none⟩) 1 cap0]),(nb w 27 n s g 2 cap)] ((ls++fa)++fc++[(8,X.ic (tx s0),none')]) w4) from h5);clear h5))
 all_goals
  clear CALL CN;go_wp2_with fail
  first
   | (refine bodyPost_end (v:=.tuple #[]) ?_ rfl (H5.out.ends (by simp));simp[results,Tryz.results42])
   | (refine bodyPost_ret (v:=.tuple #[]) ?_ rfl (H5.out.ends (by simp));simp[results,Tryz.results42])

end Sp
namespace Sp
open St (Vl encV)
open Nd Ty Cm
open Pg (RdT)
open Oc (hold Blk)

set_option maxHeartbeats 1000000 in
set_option maxRecDepth 100000 in
theorem sl14If {X:Fx}{op n:Int}{s:List UInt8}{k0 k1:Data}(hk0:EOk X k0)(hk1:BlOk X k1){ls:List Vl}{w:World}{S:Nat→Prop}{a b c u:Value}(hW:Wk X ls w)(hN:NodeIs X.W (nd op n s [k0,k1]) S [a,b,c,u])(hB:(ls++ifV (nodeP X.iv X.ic k0) (seqOf X.iv X.ic (kidsOf k1)) ls.length).length≤40000000):
  Calls Tryz.prog 72 #[.pointer (some ⟨X.p,0,none⟩),.agg #[a,b,c,u]] w fun e w'=>Ran X (ls++ifV (nodeP X.iv X.ic k0) (seqOf X.iv X.ic (kidsOf k1)) ls.length) w e w':=by
 obtain⟨g,cap,x0,x1,x2,x3,y0,y1,y2,y3,S0,S1,T⟩:=kids2 hN
 have hv:=T.val;simp at hv
 obtain⟨rfl,rfl,rfl,rfl⟩:=hv
 obtain⟨ao0,cap0,rfl,rfl,rfl,rfl⟩:=node_vals T.k0
 obtain⟨ao1,cap1,rfl,rfl,rfl,rfl⟩:=node_vals T.k1
 obtain⟨-,hgl,-,c0,c1,c2,c3,d0,d1,d2,d3,i0,i1,t0,t1⟩:=T
 obtain⟨fa,hfa⟩:=hid_eq (nodeP X.iv X.ic k0 ls.length)
 obtain⟨fc,hfc⟩:=hid_eq (seqOf X.iv X.ic (kidsOf k1) (ls.length+fa.length+1))
 have HV:Hid (ifV (nodeP X.iv X.ic k0) (seqOf X.iv X.ic (kidsOf k1)) ls.length=fa++(31,((ls.length+fa.length+1+fc.length:Nat):Int),none')::fc):=by show _=_;simp only[ifV,← hfa.out,← hfc.out]
 have HT:Hid (ls++ifV (nodeP X.iv X.ic k0) (seqOf X.iv X.ic (kidsOf k1)) ls.length=ls++(fa++(31,((ls.length+fa.length+1+fc.length:Nat):Int),none')::fc)):=by show _=_;simp only[HV.out]
 rw[HT.out] at hB ⊢
 have HB:Hid ((ls++(fa++(31,((ls.length+fa.length+1+fc.length:Nat):Int),none')::fc)).length≤40000000):=hB;clear HV HT hB;have HA:Hid (At X w [(nb w op n s g 2 cap)] ls (w.alloc (.cells #[.int .i64 op,.int .i64 n,.string ⟨s.toArray⟩,.slice (some ⟨g,0,none⟩) 2 cap] 51))):=(at_none hW).more _ _;have p0:=HA.out.box (b:=(nb w op n s g 2 cap)) (by simp) 3 rfl;have c0':=HA.out.cell c0;have c1':=HA.out.cell c1;have c2':=HA.out.cell c2;have c3':=HA.out.cell c3;have d0':=HA.out.cell d0;have d1':=HA.out.cell d1;have d2':=HA.out.cell d2;have d3':=HA.out.cell d3;clear hW hN
 go_enter Tryz.func72,Tryz.ntmps72
 go_wp2_with (go_at_call 17;refine hold ?_)
 refine Calls.mono (at_e (x:=fa) hk0 HA.out i0 (hfa.out) (by have h1:=HB.out;simp only[List.length_append,List.length_cons] at h1 ⊢;omega)) ?_;clear p0 c0' c1' c2' c3' d0' d1' d2' d3';rintro e w1 ⟨rfl,hK⟩;have H1:Hid (At X w [(nb w op n s g 2 cap)] (ls++fa) w1):=hK;have p0:=H1.out.box (b:=(nb w op n s g 2 cap)) (by simp) 3 rfl;have c0':=H1.out.cell c0;have c1':=H1.out.cell c1;have c2':=H1.out.cell c2;have c3':=H1.out.cell c3;have d0':=H1.out.cell d0;have d1':=H1.out.cell d1;have d2':=H1.out.cell d2;have d3':=H1.out.cell d3;clear hK HA
 obtain⟨jn,hjn⟩:=hid_eq (ls++fa).length
 go_wp2_with (go_at_call 18;refine hold ?_)
 refine Calls.mono (at_put H1.out (by have h1:=HB.out;simp only[List.length_append,List.length_cons] at h1 ⊢;omega) 31 0 none' hjn.out) ?_;clear p0 c0' c1' c2' c3' d0' d1' d2' d3';rintro e w2 ⟨rfl,hK⟩;have H2:Hid (At X w [(nb w op n s g 2 cap)] ((ls++fa)++[((31,0,none'):Vl)]) w2):=hK;have p0:=H2.out.box (b:=(nb w op n s g 2 cap)) (by simp) 3 rfl;have c0':=H2.out.cell c0;have c1':=H2.out.cell c1;have c2':=H2.out.cell c2;have c3':=H2.out.cell c3;have d0':=H2.out.cell d0;have d1':=H2.out.cell d1;have d2':=H2.out.cell d2;have d3':=H2.out.cell d3;clear hK H1
 go_wp2_with (go_at_call 16;refine hold ?_)
 refine Calls.mono (at_block (x:=fc) hk1 H2.out i1 (by rw[hfc.out];congr 1;simp;omega) (by have h1:=HB.out;simp only[List.length_append,List.length_cons,List.length_nil] at h1 ⊢;omega)) ?_;clear p0 c0' c1' c2' c3' d0' d1' d2' d3';rintro e w3 ⟨rfl,hK⟩;have H3:Hid (At X w [(nb w op n s g 2 cap)] (((ls++fa)++[((31,0,none'):Vl)])++fc) w3):=hK;have p0:=H3.out.box (b:=(nb w op n s g 2 cap)) (by simp) 3 rfl;have c0':=H3.out.cell c0;have c1':=H3.out.cell c1;have c2':=H3.out.cell c2;have c3':=H3.out.cell c3;have d0':=H3.out.cell d0;have d1':=H3.out.cell d1;have d2':=H3.out.cell d2;have d3':=H3.out.cell d3;clear hK H2
 obtain⟨N4,hN4⟩:=hid_eq (ls.length+fa.length+1+fc.length:Nat)
 obtain⟨g4,cap4,q2,q5,fz,hjN,hK⟩:=at_land H3.out (l1:=(ls++fa)) (c:=31) (n:=0) (s:=none') (l2:=fc) (by simp) (hjn.out.trans (by simp)) (N:=N4) (by rw[hN4.out];simp;omega)
 have hjI:(jn:Int)<N4:=by omega
 have hNI:(N4:Int)≤40000000:=by have h1:=HB.out;have h2:=hN4.out;simp only[List.length_append,List.length_cons] at h1;omega
 have HK:Hid _:=hK;clear hK hjN;go_wp2_with fail;go_region
 obtain⟨w4,hw4⟩:∃ w4,w4=(w3.setCell ⟨g4,jn*3+1,none⟩ (.int .i64 N4)).drew:=⟨_,rfl⟩
 rw[← hw4]
 have hK:At X w [(nb w op n s g 2 cap)] ((ls++fa)++(31,((ls.length+fa.length+1+fc.length:Nat):Int),none')::fc) w4:=by rw[hw4,← hN4.out];exact HK.out
 clear hw4 HK q2 q5 fz hjI hNI;clear p0 c0' c1' c2' c3' d0' d1' d2' d3';have H4:Hid (At X w [(nb w op n s g 2 cap)] ((ls++fa)++(31,((ls.length+fa.length+1+fc.length:Nat):Int),none')::fc) w4):=hK;have p0:=H4.out.box (b:=(nb w op n s g 2 cap)) (by simp) 3 rfl;have c0':=H4.out.cell c0;have c1':=H4.out.cell c1;have c2':=H4.out.cell c2;have c3':=H4.out.cell c3;have d0':=H4.out.cell d0;have d1':=H4.out.cell d1;have d2':=H4.out.cell d2;have d3':=H4.out.cell d3;clear hK H3;clear p0 c0' c1' c2' c3' d0' d1' d2' d3';go_wp2_with fail
 first
  | (refine bodyPost_end (v:=.tuple #[]) ?_ rfl (H4.out.ends (by simp));simp[results,Tryz.results72])
  | (refine bodyPost_ret (v:=.tuple #[]) ?_ rfl (H4.out.ends (by simp));simp[results,Tryz.results72])

set_option maxHeartbeats 1000000 in
set_option maxRecDepth 100000 in
theorem sl14If3 {X:Fx}{op n:Int}{s:List UInt8}{k0 k1 k2:Data}(hk0:EOk X k0)(hk1:BlOk X k1)(hk2:BlOk X k2){ls:List Vl}{w:World}{S:Nat→Prop}{a b c u:Value}(hW:Wk X ls w)(hN:NodeIs X.W (nd op n s [k0,k1,k2]) S [a,b,c,u])(hB:(ls++elseV (nodeP X.iv X.ic k0) (seqOf X.iv X.ic (kidsOf k1)) (seqOf X.iv X.ic (kidsOf k2)) ls.length).length≤40000000):
  Calls Tryz.prog 72 #[.pointer (some ⟨X.p,0,none⟩),.agg #[a,b,c,u]] w fun e w'=>Ran X (ls++elseV (nodeP X.iv X.ic k0) (seqOf X.iv X.ic (kidsOf k1)) (seqOf X.iv X.ic (kidsOf k2)) ls.length) w e w':=by
 obtain⟨g,cap,x0,x1,x2,x3,y0,y1,y2,y3,z0,z1,z2,z3,S0,S1,S2,hv,hgl,c0,c1,c2,c3,d0,d1,d2,d3,e0,e1,e2,e3,i0,i1,i2,t0,t1,t2⟩:=kids3 hN
 simp at hv
 obtain⟨rfl,rfl,rfl,rfl⟩:=hv
 obtain⟨ao0,cap0,rfl,rfl,rfl,rfl⟩:=node_vals i0
 obtain⟨ao1,cap1,rfl,rfl,rfl,rfl⟩:=node_vals i1
 obtain⟨ao2,cap2,rfl,rfl,rfl,rfl⟩:=node_vals i2
 obtain⟨fa,hfa⟩:=hid_eq (nodeP X.iv X.ic k0 ls.length)
 obtain⟨fc,hfc⟩:=hid_eq (seqOf X.iv X.ic (kidsOf k1) (ls.length+fa.length+1))
 obtain⟨fd,hfd⟩:=hid_eq (seqOf X.iv X.ic (kidsOf k2) (ls.length+fa.length+1+fc.length+1))
 have HV:Hid (elseV (nodeP X.iv X.ic k0) (seqOf X.iv X.ic (kidsOf k1)) (seqOf X.iv X.ic (kidsOf k2)) ls.length=fa++(31,((ls.length+fa.length+1+fc.length+1:Nat):Int),none')::(fc++(30,((ls.length+fa.length+1+fc.length+1+fd.length:Nat):Int),none')::fd)):=by show _=_;simp only[elseV,← hfa.out,← hfc.out,← hfd.out]
 have HT:Hid (ls++elseV (nodeP X.iv X.ic k0) (seqOf X.iv X.ic (kidsOf k1)) (seqOf X.iv X.ic (kidsOf k2)) ls.length=ls++(fa++(31,((ls.length+fa.length+1+fc.length+1:Nat):Int),none')::(fc++(30,((ls.length+fa.length+1+fc.length+1+fd.length:Nat):Int),none')::fd))):=by show _=_;simp only[HV.out]
 rw[HT.out] at hB ⊢
 have HB:Hid ((ls++(fa++(31,((ls.length+fa.length+1+fc.length+1:Nat):Int),none')::(fc++(30,((ls.length+fa.length+1+fc.length+1+fd.length:Nat):Int),none')::fd))).length≤40000000):=hB;clear HV HT hB;have HA:Hid (At X w [(nb w op n s g 3 cap)] ls (w.alloc (.cells #[.int .i64 op,.int .i64 n,.string ⟨s.toArray⟩,.slice (some ⟨g,0,none⟩) 3 cap] 51))):=(at_none hW).more _ _;have p0:=HA.out.box (b:=(nb w op n s g 3 cap)) (by simp) 3 rfl;have c0':=HA.out.cell c0;have c1':=HA.out.cell c1;have c2':=HA.out.cell c2;have c3':=HA.out.cell c3;have d0':=HA.out.cell d0;have d1':=HA.out.cell d1;have d2':=HA.out.cell d2;have d3':=HA.out.cell d3;have e0':=HA.out.cell e0;have e1':=HA.out.cell e1;have e2':=HA.out.cell e2;have e3':=HA.out.cell e3;clear hW hN
 go_enter Tryz.func72,Tryz.ntmps72
 go_wp2_with (go_at_call 17;refine hold ?_)
 refine Calls.mono (at_e (x:=fa) hk0 HA.out i0 (hfa.out) (by have h1:=HB.out;simp only[List.length_append,List.length_cons] at h1 ⊢;omega)) ?_;clear p0 c0' c1' c2' c3' d0' d1' d2' d3' e0' e1' e2' e3';rintro e w1 ⟨rfl,hK⟩;have H1:Hid (At X w [(nb w op n s g 3 cap)] (ls++fa) w1):=hK;have p0:=H1.out.box (b:=(nb w op n s g 3 cap)) (by simp) 3 rfl;have c0':=H1.out.cell c0;have c1':=H1.out.cell c1;have c2':=H1.out.cell c2;have c3':=H1.out.cell c3;have d0':=H1.out.cell d0;have d1':=H1.out.cell d1;have d2':=H1.out.cell d2;have d3':=H1.out.cell d3;have e0':=H1.out.cell e0;have e1':=H1.out.cell e1;have e2':=H1.out.cell e2;have e3':=H1.out.cell e3;clear hK HA
 obtain⟨jn,hjn⟩:=hid_eq (ls++fa).length
 go_wp2_with (go_at_call 18;refine hold ?_)
 refine Calls.mono (at_put H1.out (by have h1:=HB.out;simp only[List.length_append,List.length_cons] at h1 ⊢;omega) 31 0 none' hjn.out) ?_;clear p0 c0' c1' c2' c3' d0' d1' d2' d3' e0' e1' e2' e3';rintro e w2 ⟨rfl,hK⟩;have H2:Hid (At X w [(nb w op n s g 3 cap)] ((ls++fa)++[((31,0,none'):Vl)]) w2):=hK;have p0:=H2.out.box (b:=(nb w op n s g 3 cap)) (by simp) 3 rfl;have c0':=H2.out.cell c0;have c1':=H2.out.cell c1;have c2':=H2.out.cell c2;have c3':=H2.out.cell c3;have d0':=H2.out.cell d0;have d1':=H2.out.cell d1;have d2':=H2.out.cell d2;have d3':=H2.out.cell d3;have e0':=H2.out.cell e0;have e1':=H2.out.cell e1;have e2':=H2.out.cell e2;have e3':=H2.out.cell e3;clear hK H1
 go_wp2_with (go_at_call 16;refine hold ?_)
 refine Calls.mono (at_block (x:=fc) hk1 H2.out i1 (by rw[hfc.out];congr 1;simp;omega) (by have h1:=HB.out;simp only[List.length_append,List.length_cons,List.length_nil] at h1 ⊢;omega)) ?_;clear p0 c0' c1' c2' c3' d0' d1' d2' d3' e0' e1' e2' e3';rintro e w3 ⟨rfl,hK⟩;have H3:Hid (At X w [(nb w op n s g 3 cap)] (((ls++fa)++[((31,0,none'):Vl)])++fc) w3):=hK;have p0:=H3.out.box (b:=(nb w op n s g 3 cap)) (by simp) 3 rfl;have c0':=H3.out.cell c0;have c1':=H3.out.cell c1;have c2':=H3.out.cell c2;have c3':=H3.out.cell c3;have d0':=H3.out.cell d0;have d1':=H3.out.cell d1;have d2':=H3.out.cell d2;have d3':=H3.out.cell d3;have e0':=H3.out.cell e0;have e1':=H3.out.cell e1;have e2':=H3.out.cell e2;have e3':=H3.out.cell e3;clear hK H2
 obtain⟨je,hje⟩:=hid_eq (((ls++fa)++[((31,0,none'):Vl)])++fc).length
 go_wp2_with (go_at_call 18;refine hold ?_)
 refine Calls.mono (at_put H3.out (by have h1:=HB.out;simp only[List.length_append,List.length_cons,List.length_nil] at h1 ⊢;omega) 30 0 none' hje.out) ?_;clear p0 c0' c1' c2' c3' d0' d1' d2' d3' e0' e1' e2' e3';rintro e w4 ⟨rfl,hK⟩;have H4:Hid (At X w [(nb w op n s g 3 cap)] ((((ls++fa)++[((31,0,none'):Vl)])++fc)++[((30,0,none'):Vl)]) w4):=hK;have p0:=H4.out.box (b:=(nb w op n s g 3 cap)) (by simp) 3 rfl;have c0':=H4.out.cell c0;have c1':=H4.out.cell c1;have c2':=H4.out.cell c2;have c3':=H4.out.cell c3;have d0':=H4.out.cell d0;have d1':=H4.out.cell d1;have d2':=H4.out.cell d2;have d3':=H4.out.cell d3;have e0':=H4.out.cell e0;have e1':=H4.out.cell e1;have e2':=H4.out.cell e2;have e3':=H4.out.cell e3;clear hK H3
 obtain⟨N5,hN5⟩:=hid_eq (ls.length+fa.length+1+fc.length+1:Nat)
 obtain⟨g5,cap5,q2,q5,fz,hjN,hK⟩:=at_land H4.out (l1:=(ls++fa)) (c:=31) (n:=0) (s:=none') (l2:=(fc++[(30,0,none')])) (by simp) (hjn.out.trans (by simp)) (N:=N5) (by rw[hN5.out];simp;omega)
 have hjI:(jn:Int)<N5:=by omega
 have hNI:(N5:Int)≤40000000:=by have h1:=HB.out;have h2:=hN5.out;simp only[List.length_append,List.length_cons] at h1;omega
 have HK:Hid _:=hK;clear hK hjN;go_wp2_with fail;go_region
 obtain⟨w5,hw5⟩:∃ w5,w5=(w4.setCell ⟨g5,jn*3+1,none⟩ (.int .i64 N5)).drew:=⟨_,rfl⟩
 rw[← hw5]
 have hK:At X w [(nb w op n s g 3 cap)] ((ls++fa)++(31,((ls.length+fa.length+1+fc.length+1:Nat):Int),none')::(fc++[(30,0,none')])) w5:=by rw[hw5,← hN5.out];exact HK.out
 clear hw5 HK q2 q5 fz hjI hNI;clear p0 c0' c1' c2' c3' d0' d1' d2' d3' e0' e1' e2' e3';have H5:Hid (At X w [(nb w op n s g 3 cap)] ((ls++fa)++(31,((ls.length+fa.length+1+fc.length+1:Nat):Int),none')::(fc++[(30,0,none')])) w5):=hK;have p0:=H5.out.box (b:=(nb w op n s g 3 cap)) (by simp) 3 rfl;have c0':=H5.out.cell c0;have c1':=H5.out.cell c1;have c2':=H5.out.cell c2;have c3':=H5.out.cell c3;have d0':=H5.out.cell d0;have d1':=H5.out.cell d1;have d2':=H5.out.cell d2;have d3':=H5.out.cell d3;have e0':=H5.out.cell e0;have e1':=H5.out.cell e1;have e2':=H5.out.cell e2;have e3':=H5.out.cell e3;clear hK H4
 go_wp2_with (go_at_call 16;refine hold ?_)
 refine Calls.mono (at_block (x:=fd) hk2 H5.out i2 (by rw[hfd.out];congr 1;simp;omega) (by have h1:=HB.out;simp only[List.length_append,List.length_cons,List.length_nil] at h1 ⊢;omega)) ?_;clear p0 c0' c1' c2' c3' d0' d1' d2' d3' e0' e1' e2' e3';rintro e w6 ⟨rfl,hK⟩;have H6:Hid (At X w [(nb w op n s g 3 cap)] (((ls++fa)++(31,((ls.length+fa.length+1+fc.length+1:Nat):Int),none')::(fc++[(30,0,none')]))++fd) w6):=hK;have p0:=H6.out.box (b:=(nb w op n s g 3 cap)) (by simp) 3 rfl;have c0':=H6.out.cell c0;have c1':=H6.out.cell c1;have c2':=H6.out.cell c2;have c3':=H6.out.cell c3;have d0':=H6.out.cell d0;have d1':=H6.out.cell d1;have d2':=H6.out.cell d2;have d3':=H6.out.cell d3;have e0':=H6.out.cell e0;have e1':=H6.out.cell e1;have e2':=H6.out.cell e2;have e3':=H6.out.cell e3;clear hK H5
 obtain⟨N7,hN7⟩:=hid_eq (ls.length+fa.length+1+fc.length+1+fd.length:Nat)
 obtain⟨g7,cap7,q2,q5,fz,hjN,hK⟩:=at_land H6.out (l1:=(ls++fa++(31,((ls.length+fa.length+1+fc.length+1:Nat):Int),none')::fc)) (c:=30) (n:=0) (s:=none') (l2:=fd) (by simp) (hje.out.trans (by simp)) (N:=N7) (by rw[hN7.out];simp;omega)
 have hjI:(je:Int)<N7:=by omega
 have hNI:(N7:Int)≤40000000:=by have h1:=HB.out;have h2:=hN7.out;simp only[List.length_append,List.length_cons] at h1;omega
 have HK:Hid _:=hK;clear hK hjN;go_wp2_with fail;go_region
 obtain⟨w7,hw7⟩:∃ w7,w7=(w6.setCell ⟨g7,je*3+1,none⟩ (.int .i64 N7)).drew:=⟨_,rfl⟩
 rw[← hw7]
 have hK:At X w [(nb w op n s g 3 cap)] ((ls++fa++(31,((ls.length+fa.length+1+fc.length+1:Nat):Int),none')::fc)++(30,((ls.length+fa.length+1+fc.length+1+fd.length:Nat):Int),none')::fd) w7:=by rw[hw7,← hN7.out];exact HK.out
 clear hw7 HK q2 q5 fz hjI hNI;clear p0 c0' c1' c2' c3' d0' d1' d2' d3' e0' e1' e2' e3';have H7:Hid (At X w [(nb w op n s g 3 cap)] ((ls++fa++(31,((ls.length+fa.length+1+fc.length+1:Nat):Int),none')::fc)++(30,((ls.length+fa.length+1+fc.length+1+fd.length:Nat):Int),none')::fd) w7):=hK;have p0:=H7.out.box (b:=(nb w op n s g 3 cap)) (by simp) 3 rfl;have c0':=H7.out.cell c0;have c1':=H7.out.cell c1;have c2':=H7.out.cell c2;have c3':=H7.out.cell c3;have d0':=H7.out.cell d0;have d1':=H7.out.cell d1;have d2':=H7.out.cell d2;have d3':=H7.out.cell d3;have e0':=H7.out.cell e0;have e1':=H7.out.cell e1;have e2':=H7.out.cell e2;have e3':=H7.out.cell e3;clear hK H6;clear p0 c0' c1' c2' c3' d0' d1' d2' d3' e0' e1' e2' e3';go_wp2_with fail
 first
  | (refine bodyPost_end (v:=.tuple #[]) ?_ rfl (H7.out.ends (by simp));simp[results,Tryz.results72])
  | (refine bodyPost_ret (v:=.tuple #[]) ?_ rfl (H7.out.ends (by simp));simp[results,Tryz.results72])

set_option maxHeartbeats 1000000 in
set_option maxRecDepth 100000 in
theorem sl14While {X:Fx}{op n:Int}{s:List UInt8}{k0 k1:Data}(hk0:EOk X k0)(hk1:BlOk X k1){ls:List Vl}{w:World}{S:Nat→Prop}{a b c u:Value}(hW:Wk X ls w)(hN:NodeIs X.W (nd op n s [k0,k1]) S [a,b,c,u])(hB:(ls++whileV (nodeP X.iv X.ic k0) (seqOf X.iv X.ic (kidsOf k1)) ls.length).length≤40000000):
  Calls Tryz.prog 73 #[.pointer (some ⟨X.p,0,none⟩),.agg #[a,b,c,u]] w fun e w'=>Ran X (ls++whileV (nodeP X.iv X.ic k0) (seqOf X.iv X.ic (kidsOf k1)) ls.length) w e w':=by
 obtain⟨g,cap,x0,x1,x2,x3,y0,y1,y2,y3,S0,S1,T⟩:=kids2 hN
 have hv:=T.val;simp at hv
 obtain⟨rfl,rfl,rfl,rfl⟩:=hv
 obtain⟨ao0,cap0,rfl,rfl,rfl,rfl⟩:=node_vals T.k0
 obtain⟨ao1,cap1,rfl,rfl,rfl,rfl⟩:=node_vals T.k1
 obtain⟨-,hgl,-,c0,c1,c2,c3,d0,d1,d2,d3,i0,i1,t0,t1⟩:=T
 obtain⟨fa,hfa⟩:=hid_eq (nodeP X.iv X.ic k0 ls.length)
 obtain⟨fc,hfc⟩:=hid_eq (seqOf X.iv X.ic (kidsOf k1) (ls.length+fa.length+1))
 have HV:Hid (whileV (nodeP X.iv X.ic k0) (seqOf X.iv X.ic (kidsOf k1)) ls.length=fa++(31,((ls.length+fa.length+1+fc.length+1:Nat):Int),none')::(fc++[(30,(ls.length:Int),none')])):=by show _=_;simp only[whileV,← hfa.out,← hfc.out]
 have HT:Hid (ls++whileV (nodeP X.iv X.ic k0) (seqOf X.iv X.ic (kidsOf k1)) ls.length=ls++(fa++(31,((ls.length+fa.length+1+fc.length+1:Nat):Int),none')::(fc++[(30,(ls.length:Int),none')]))):=by show _=_;simp only[HV.out]
 rw[HT.out] at hB ⊢
 have HB:Hid ((ls++(fa++(31,((ls.length+fa.length+1+fc.length+1:Nat):Int),none')::(fc++[(30,(ls.length:Int),none')]))).length≤40000000):=hB;clear HV HT hB;have HA:Hid (At X w [(nb w op n s g 2 cap)] ls (w.alloc (.cells #[.int .i64 op,.int .i64 n,.string ⟨s.toArray⟩,.slice (some ⟨g,0,none⟩) 2 cap] 51))):=(at_none hW).more _ _;have p0:=HA.out.box (b:=(nb w op n s g 2 cap)) (by simp) 3 rfl;have c0':=HA.out.cell c0;have c1':=HA.out.cell c1;have c2':=HA.out.cell c2;have c3':=HA.out.cell c3;have d0':=HA.out.cell d0;have d1':=HA.out.cell d1;have d2':=HA.out.cell d2;have d3':=HA.out.cell d3
 obtain⟨aoP,capP,qP⟩:∃ aoP capP,(w.alloc (.cells #[.int .i64 op,.int .i64 n,.string ⟨s.toArray⟩,.slice (some ⟨g,0,none⟩) 2 cap] 51)).cell? ⟨X.p,2,none⟩=some (.slice aoP ls.length capP):=by
  obtain⟨ao,cap,h3,_⟩:=HA.out.wk.blk
  exact⟨ao,cap,h3.cell 2 rfl⟩
 clear hW hN
 go_enter Tryz.func73,Tryz.ntmps73
 go_wp2_with (go_at_call 17;refine hold ?_)
 refine Calls.mono (at_e (x:=fa) hk0 HA.out i0 (hfa.out) (by have h1:=HB.out;simp only[List.length_append,List.length_cons,List.length_nil] at h1 ⊢;omega)) ?_;clear p0 c0' c1' c2' c3' d0' d1' d2' d3';rintro e w1 ⟨rfl,hK⟩;have H1:Hid (At X w [(nb w op n s g 2 cap)] (ls++fa) w1):=hK;have p0:=H1.out.box (b:=(nb w op n s g 2 cap)) (by simp) 3 rfl;have c0':=H1.out.cell c0;have c1':=H1.out.cell c1;have c2':=H1.out.cell c2;have c3':=H1.out.cell c3;have d0':=H1.out.cell d0;have d1':=H1.out.cell d1;have d2':=H1.out.cell d2;have d3':=H1.out.cell d3;clear hK HA
 obtain⟨jn,hjn⟩:=hid_eq (ls++fa).length
 go_wp2_with (go_at_call 18;refine hold ?_)
 refine Calls.mono (at_put H1.out (by have h1:=HB.out;simp only[List.length_append,List.length_cons,List.length_nil] at h1 ⊢;omega) 31 0 none' hjn.out) ?_;clear p0 c0' c1' c2' c3' d0' d1' d2' d3';rintro e w2 ⟨rfl,hK⟩;have H2:Hid (At X w [(nb w op n s g 2 cap)] ((ls++fa)++[((31,0,none'):Vl)]) w2):=hK;have p0:=H2.out.box (b:=(nb w op n s g 2 cap)) (by simp) 3 rfl;have c0':=H2.out.cell c0;have c1':=H2.out.cell c1;have c2':=H2.out.cell c2;have c3':=H2.out.cell c3;have d0':=H2.out.cell d0;have d1':=H2.out.cell d1;have d2':=H2.out.cell d2;have d3':=H2.out.cell d3;clear hK H1
 go_wp2_with (go_at_call 16;refine hold ?_)
 refine Calls.mono (at_block (x:=fc) hk1 H2.out i1 (by rw[hfc.out];congr 1;simp;omega) (by have h1:=HB.out;simp only[List.length_append,List.length_cons,List.length_nil] at h1 ⊢;omega)) ?_;clear p0 c0' c1' c2' c3' d0' d1' d2' d3';rintro e w3 ⟨rfl,hK⟩;have H3:Hid (At X w [(nb w op n s g 2 cap)] (((ls++fa)++[((31,0,none'):Vl)])++fc) w3):=hK;have p0:=H3.out.box (b:=(nb w op n s g 2 cap)) (by simp) 3 rfl;have c0':=H3.out.cell c0;have c1':=H3.out.cell c1;have c2':=H3.out.cell c2;have c3':=H3.out.cell c3;have d0':=H3.out.cell d0;have d1':=H3.out.cell d1;have d2':=H3.out.cell d2;have d3':=H3.out.cell d3;clear hK H2
 obtain⟨jj3,hjj3⟩:=hid_eq (((ls++fa)++[((31,0,none'):Vl)])++fc).length
 go_wp2_with (go_at_call 18;refine hold ?_)
 refine Calls.mono (at_put H3.out (by have h1:=HB.out;simp only[List.length_append,List.length_cons,List.length_nil] at h1 ⊢;omega) 30 (ls.length:Int) none' hjj3.out) ?_;clear p0 c0' c1' c2' c3' d0' d1' d2' d3';rintro e w4 ⟨rfl,hK⟩;have H4:Hid (At X w [(nb w op n s g 2 cap)] ((((ls++fa)++[((31,0,none'):Vl)])++fc)++[((30,(ls.length:Int),none'):Vl)]) w4):=hK;have p0:=H4.out.box (b:=(nb w op n s g 2 cap)) (by simp) 3 rfl;have c0':=H4.out.cell c0;have c1':=H4.out.cell c1;have c2':=H4.out.cell c2;have c3':=H4.out.cell c3;have d0':=H4.out.cell d0;have d1':=H4.out.cell d1;have d2':=H4.out.cell d2;have d3':=H4.out.cell d3;clear hK H3
 obtain⟨N5,hN5⟩:=hid_eq (ls.length+fa.length+1+fc.length+1:Nat)
 obtain⟨g5,cap5,q2,q5,fz,hjN,hK⟩:=at_land H4.out (l1:=(ls++fa)) (c:=31) (n:=0) (s:=none') (l2:=(fc++[(30,(ls.length:Int),none')])) (by simp) (hjn.out.trans (by simp)) (N:=N5) (by rw[hN5.out];simp;omega)
 have hjI:(jn:Int)<N5:=by omega
 have hNI:(N5:Int)≤40000000:=by have h1:=HB.out;have h2:=hN5.out;simp only[List.length_append,List.length_cons,List.length_nil] at h1;omega
 have HK:Hid _:=hK;clear hK hjN;go_wp2_with fail;go_region
 obtain⟨w5,hw5⟩:∃ w5,w5=(w4.setCell ⟨g5,jn*3+1,none⟩ (.int .i64 N5)).drew:=⟨_,rfl⟩
 rw[← hw5]
 have hK:At X w [(nb w op n s g 2 cap)] ((ls++fa)++(31,((ls.length+fa.length+1+fc.length+1:Nat):Int),none')::(fc++[(30,(ls.length:Int),none')])) w5:=by rw[hw5,← hN5.out];exact HK.out
 clear hw5 HK q2 q5 fz hjI hNI;clear p0 c0' c1' c2' c3' d0' d1' d2' d3';have H5:Hid (At X w [(nb w op n s g 2 cap)] ((ls++fa)++(31,((ls.length+fa.length+1+fc.length+1:Nat):Int),none')::(fc++[(30,(ls.length:Int),none')])) w5):=hK;have p0:=H5.out.box (b:=(nb w op n s g 2 cap)) (by simp) 3 rfl;have c0':=H5.out.cell c0;have c1':=H5.out.cell c1;have c2':=H5.out.cell c2;have c3':=H5.out.cell c3;have d0':=H5.out.cell d0;have d1':=H5.out.cell d1;have d2':=H5.out.cell d2;have d3':=H5.out.cell d3;clear hK H4;clear p0 c0' c1' c2' c3' d0' d1' d2' d3';go_wp2_with fail
 first
  | (refine bodyPost_end (v:=.tuple #[]) ?_ rfl (H5.out.ends (by simp));simp[results,Tryz.results73])
  | (refine bodyPost_ret (v:=.tuple #[]) ?_ rfl (H5.out.ends (by simp));simp[results,Tryz.results73])

end Sp
end Go.Proofs.YtllbachngocmnaaGreatDoor
