/-
  Both, and either: the program.
-/
import Derived.Test.YtllbachngocmnaaGreatDoorP04
namespace Go.Proofs.YtllbachngocmnaaGreatDoor
open Go.RowKit
namespace Cm
open St (Vl encV)
open Nd Ty
open Oc (hold Blk)

set_option maxHeartbeats 1000000 in
set_option maxRecDepth 100000 in
theorem iBoth {X:Fx}{op n:Int}{s:List UInt8}{k0 k1:Data}(hk0:NodeOk X k0)(hk1:NodeOk X k1){ls:List Vl}{G:List Nat}{w:World}{S:Nat→Prop}{a b c u:Value}(hW:Wk X ls G w)(hN:NodeIs X.W (nd op n s [k0,k1]) S [a,b,c,u])(hG:∀ g∈G,¬ S g):
  Calls Tryz.prog 144 #[.pointer (some ⟨X.p,0,none⟩),.agg #[a,b,c,u]] w fun e w'=>RanS X (ls++andV (nodeP X.iv X.ic k0) (nodeP X.iv X.ic k1) ls.length) G S w e w':=by
 obtain⟨g,cap,x0,x1,x2,x3,y0,y1,y2,y3,S0,S1,T⟩:=kids2 hN
 have hv:=T.val;simp at hv
 obtain⟨rfl,rfl,rfl,rfl⟩:=hv
 obtain⟨ao0,cap0,rfl,rfl,rfl,rfl⟩:=node_vals T.k0
 obtain⟨ao1,cap1,rfl,rfl,rfl,rfl⟩:=node_vals T.k1
 obtain⟨-,hgl,-,c0,c1,c2,c3,d0,d1,d2,d3,i0,i1,t0,t1⟩:=T
 have R0:∀ k,S0 k→S k∧(S0 k∨S1 k)∧¬ S1 k:=fun k hk=>⟨(t0 k hk).1,.inl hk,(t0 k hk).2⟩;have R1:∀ k,S1 k→S k∧S1 k∧¬ False:=fun k hk=>⟨t1 k hk,hk,id⟩
 obtain⟨fa,hfa⟩:∃ fa,Hid (fa=nodeP X.iv X.ic k0 ls.length):=⟨_,rfl⟩
 obtain⟨fc,hfc⟩:∃ fc,Hid (fc=nodeP X.iv X.ic k1 (ls.length+fa.length+1)):=⟨_,rfl⟩
 have HV:Hid (andV (nodeP X.iv X.ic k0) (nodeP X.iv X.ic k1) ls.length=fa++(31,((ls.length+fa.length+1+fc.length+2:Nat):Int),none')::(fc++[(28,0,none'),(30,((ls.length+fa.length+1+fc.length+3:Nat):Int),none'),(1,0,none')])):=by show _=_;simp only[andV,← hfa.out,← hfc.out]
 have HT:Hid (ls++andV (nodeP X.iv X.ic k0) (nodeP X.iv X.ic k1) ls.length=ls++(fa++(31,((ls.length+fa.length+1+fc.length+2:Nat):Int),none')::(fc++[(28,0,none'),(30,((ls.length+fa.length+1+fc.length+3:Nat):Int),none'),(1,0,none')]))):=by show _=_;simp only[HV.out]
 rw[HT.out]
 clear HV;have HA:Hid (At X w [(nb w op n s g 2 cap)] G S (fun k=>S0 k∨S1 k) ls (w.alloc (.cells #[.int .i64 op,.int .i64 n,.string ⟨s.toArray⟩,.slice (some ⟨g,0,none⟩) 2 cap] 51))):=(at_none hW hG (fun k hk=>hk.elim (fun h=>(t0 k h).1) (t1 k))).more _ _;have p0:=HA.out.box (b:=(nb w op n s g 2 cap)) (by simp) 3 rfl;have c0':=HA.out.wk c0;have c1':=HA.out.wk c1;have c2':=HA.out.wk c2;have c3':=HA.out.wk c3;have d0':=HA.out.wk d0;have d1':=HA.out.wk d1;have d2':=HA.out.wk d2;have d3':=HA.out.wk d3;clear hW hN hG
 go_enter Tryz.func144,Tryz.ntmps144
 go_wp2_with (go_at_call 101;refine hold ?_)
 refine Calls.mono (at_node (R':=S1) (x:=fa) hk0 HA.out i0 R0 (fun k hk=>.inr hk) (hfa.out)) ?_;clear p0 c0' c1' c2' c3' d0' d1' d2' d3';rintro e w1 (⟨rfl,hn,hB⟩|⟨rfl,hK⟩)
 ·clear HA;go_wp2_with fail
  exact⟨rfl,.inr ⟨rfl,by simp only[List.length_append,List.length_cons,List.length_nil] at hn ⊢;omega,hB⟩⟩
 have H1:Hid (At X w [(nb w op n s g 2 cap)] G S S1 (ls++fa) w1):=hK;have p0:=H1.out.box (b:=(nb w op n s g 2 cap)) (by simp) 3 rfl;have c0':=H1.out.wk c0;have c1':=H1.out.wk c1;have c2':=H1.out.wk c2;have c3':=H1.out.wk c3;have d0':=H1.out.wk d0;have d1':=H1.out.wk d1;have d2':=H1.out.wk d2;have d3':=H1.out.wk d3;clear hK HA
 obtain⟨jn,hjn⟩:∃ jn:Nat,Hid (jn=(ls++fa).length):=⟨_,rfl⟩
 go_wp2_with (go_at_call 102;refine hold ?_)
 refine Calls.mono (at_jump H1.out 31 hjn.out) ?_;clear p0 c0' c1' c2' c3' d0' d1' d2' d3';rintro e w2 (⟨rfl,hn,hB⟩|⟨rfl,hK⟩)
 ·clear H1;go_wp2_with fail
  exact⟨rfl,.inr ⟨rfl,by simp only[List.length_append,List.length_cons,List.length_nil] at hn ⊢;omega,hB⟩⟩
 have H2:Hid (At X w [(nb w op n s g 2 cap)] G S S1 ((ls++fa)++[((31,0,none'):Vl)]) w2):=hK;have p0:=H2.out.box (b:=(nb w op n s g 2 cap)) (by simp) 3 rfl;have c0':=H2.out.wk c0;have c1':=H2.out.wk c1;have c2':=H2.out.wk c2;have c3':=H2.out.wk c3;have d0':=H2.out.wk d0;have d1':=H2.out.wk d1;have d2':=H2.out.wk d2;have d3':=H2.out.wk d3;clear hK H1
 go_wp2_with (go_at_call 101;refine hold ?_)
 refine Calls.mono (at_node (R':=(fun _=>False)) (x:=fc) hk1 H2.out i1 R1 (fun k hk=>hk.elim) (by rw[hfc.out];congr 1;simp;omega)) ?_;clear p0 c0' c1' c2' c3' d0' d1' d2' d3';rintro e w3 (⟨rfl,hn,hB⟩|⟨rfl,hK⟩)
 ·clear H2;go_wp2_with fail
  exact⟨rfl,.inr ⟨rfl,by simp only[List.length_append,List.length_cons,List.length_nil] at hn ⊢;omega,hB⟩⟩
 have H3:Hid (At X w [(nb w op n s g 2 cap)] G S (fun _=>False) (((ls++fa)++[((31,0,none'):Vl)])++fc) w3):=hK;have p0:=H3.out.box (b:=(nb w op n s g 2 cap)) (by simp) 3 rfl;have c0':=H3.out.wk c0;have c1':=H3.out.wk c1;have c2':=H3.out.wk c2;have c3':=H3.out.wk c3;have d0':=H3.out.wk d0;have d1':=H3.out.wk d1;have d2':=H3.out.wk d2;have d3':=H3.out.wk d3;clear hK H2
 go_wp2_with (go_at_call 59;refine hold ?_)
 refine Calls.mono (at_put H3.out 28 0 none') ?_;clear p0 c0' c1' c2' c3' d0' d1' d2' d3';rintro e w4 (⟨rfl,hn,hB⟩|⟨rfl,hK⟩)
 ·clear H3;go_wp2_with fail
  exact⟨rfl,.inr ⟨rfl,by simp only[List.length_append,List.length_cons,List.length_nil] at hn ⊢;omega,hB⟩⟩
 have H4:Hid (At X w [(nb w op n s g 2 cap)] G S (fun _=>False) ((((ls++fa)++[((31,0,none'):Vl)])++fc)++[((28,0,none'):Vl)]) w4):=hK;have p0:=H4.out.box (b:=(nb w op n s g 2 cap)) (by simp) 3 rfl;have c0':=H4.out.wk c0;have c1':=H4.out.wk c1;have c2':=H4.out.wk c2;have c3':=H4.out.wk c3;have d0':=H4.out.wk d0;have d1':=H4.out.wk d1;have d2':=H4.out.wk d2;have d3':=H4.out.wk d3;clear hK H3
 obtain⟨je,hje⟩:∃ je:Nat,Hid (je=((((ls++fa)++[((31,0,none'):Vl)])++fc)++[((28,0,none'):Vl)]).length):=⟨_,rfl⟩
 go_wp2_with (go_at_call 102;refine hold ?_)
 refine Calls.mono (at_jump H4.out 30 hje.out) ?_;clear p0 c0' c1' c2' c3' d0' d1' d2' d3';rintro e w5 (⟨rfl,hn,hB⟩|⟨rfl,hK⟩)
 ·clear H4;go_wp2_with fail
  exact⟨rfl,.inr ⟨rfl,by simp only[List.length_append,List.length_cons,List.length_nil] at hn ⊢;omega,hB⟩⟩
 have H5:Hid (At X w [(nb w op n s g 2 cap)] G S (fun _=>False) (((((ls++fa)++[((31,0,none'):Vl)])++fc)++[((28,0,none'):Vl)])++[((30,0,none'):Vl)]) w5):=hK;have p0:=H5.out.box (b:=(nb w op n s g 2 cap)) (by simp) 3 rfl;have c0':=H5.out.wk c0;have c1':=H5.out.wk c1;have c2':=H5.out.wk c2;have c3':=H5.out.wk c3;have d0':=H5.out.wk d0;have d1':=H5.out.wk d1;have d2':=H5.out.wk d2;have d3':=H5.out.wk d3;clear hK H4
 go_wp2_with (go_at_call 103;refine hold ?_)
 refine Calls.mono (at_land H5.out (l1:=(ls++fa)) (c:=31) (n:=0) (s:=none') (l2:=(fc++[(28,0,none'),(30,0,none')])) (by simp) (hjn.out.trans (by simp)) (N:=(ls.length+fa.length+1+fc.length+2)) (by simp;omega)) ?_;clear p0 c0' c1' c2' c3' d0' d1' d2' d3';rintro e w6 ⟨rfl,hK⟩;have H6:Hid (At X w [(nb w op n s g 2 cap)] G S (fun _=>False) ((ls++fa)++(31,(((ls.length+fa.length+1+fc.length+2):Nat):Int),none')::(fc++[(28,0,none'),(30,0,none')])) w6):=hK;have p0:=H6.out.box (b:=(nb w op n s g 2 cap)) (by simp) 3 rfl;have c0':=H6.out.wk c0;have c1':=H6.out.wk c1;have c2':=H6.out.wk c2;have c3':=H6.out.wk c3;have d0':=H6.out.wk d0;have d1':=H6.out.wk d1;have d2':=H6.out.wk d2;have d3':=H6.out.wk d3;clear hK H5
 go_wp2_with (go_at_call 59;refine hold ?_)
 refine Calls.mono (at_put H6.out 1 0 none') ?_;clear p0 c0' c1' c2' c3' d0' d1' d2' d3';rintro e w7 (⟨rfl,hn,hB⟩|⟨rfl,hK⟩)
 ·clear H6;go_wp2_with fail
  exact⟨rfl,.inr ⟨rfl,by simp only[List.length_append,List.length_cons,List.length_nil] at hn ⊢;omega,hB⟩⟩
 have H7:Hid (At X w [(nb w op n s g 2 cap)] G S (fun _=>False) (((ls++fa)++(31,(((ls.length+fa.length+1+fc.length+2):Nat):Int),none')::(fc++[(28,0,none'),(30,0,none')]))++[((1,0,none'):Vl)]) w7):=hK;have p0:=H7.out.box (b:=(nb w op n s g 2 cap)) (by simp) 3 rfl;have c0':=H7.out.wk c0;have c1':=H7.out.wk c1;have c2':=H7.out.wk c2;have c3':=H7.out.wk c3;have d0':=H7.out.wk d0;have d1':=H7.out.wk d1;have d2':=H7.out.wk d2;have d3':=H7.out.wk d3;clear hK H6
 go_wp2_with (go_at_call 103;refine hold ?_)
 refine Calls.mono (at_land H7.out (l1:=(ls++fa++(31,((ls.length+fa.length+1+fc.length+2:Nat):Int),none')::(fc++[(28,0,none')]))) (c:=30) (n:=0) (s:=none') (l2:=[(1,0,none')]) (by simp) (hje.out.trans (by simp)) (N:=(ls.length+fa.length+1+fc.length+3)) (by simp;omega)) ?_;clear p0 c0' c1' c2' c3' d0' d1' d2' d3';rintro e w8 ⟨rfl,hK⟩;have H8:Hid (At X w [(nb w op n s g 2 cap)] G S (fun _=>False) ((ls++fa++(31,((ls.length+fa.length+1+fc.length+2:Nat):Int),none')::(fc++[(28,0,none')]))++(30,(((ls.length+fa.length+1+fc.length+3):Nat):Int),none')::[(1,0,none')]) w8):=hK;have p0:=H8.out.box (b:=(nb w op n s g 2 cap)) (by simp) 3 rfl;have c0':=H8.out.wk c0;have c1':=H8.out.wk c1;have c2':=H8.out.wk c2;have c3':=H8.out.wk c3;have d0':=H8.out.wk d0;have d1':=H8.out.wk d1;have d2':=H8.out.wk d2;have d3':=H8.out.wk d3;clear hK H7;clear p0 c0' c1' c2' c3' d0' d1' d2' d3';go_wp2_with fail;refine bodyPost_end (v:=.tuple #[]) ?_ rfl (H8.out.ends (by simp));simp[results,Tryz.results144]

set_option maxHeartbeats 1000000 in
set_option maxRecDepth 100000 in
theorem iEither {X:Fx}{op n:Int}{s:List UInt8}{k0 k1:Data}(hk0:NodeOk X k0)(hk1:NodeOk X k1){ls:List Vl}{G:List Nat}{w:World}{S:Nat→Prop}{a b c u:Value}(hW:Wk X ls G w)(hN:NodeIs X.W (nd op n s [k0,k1]) S [a,b,c,u])(hG:∀ g∈G,¬ S g):
  Calls Tryz.prog 145 #[.pointer (some ⟨X.p,0,none⟩),.agg #[a,b,c,u]] w fun e w'=>RanS X (ls++orV (nodeP X.iv X.ic k0) (nodeP X.iv X.ic k1) ls.length) G S w e w':=by
 obtain⟨g,cap,x0,x1,x2,x3,y0,y1,y2,y3,S0,S1,T⟩:=kids2 hN
 have hv:=T.val;simp at hv
 obtain⟨rfl,rfl,rfl,rfl⟩:=hv
 obtain⟨ao0,cap0,rfl,rfl,rfl,rfl⟩:=node_vals T.k0
 obtain⟨ao1,cap1,rfl,rfl,rfl,rfl⟩:=node_vals T.k1
 obtain⟨-,hgl,-,c0,c1,c2,c3,d0,d1,d2,d3,i0,i1,t0,t1⟩:=T
 have R0:∀ k,S0 k→S k∧(S0 k∨S1 k)∧¬ S1 k:=fun k hk=>⟨(t0 k hk).1,.inl hk,(t0 k hk).2⟩;have R1:∀ k,S1 k→S k∧S1 k∧¬ False:=fun k hk=>⟨t1 k hk,hk,id⟩
 obtain⟨fa,hfa⟩:∃ fa,Hid (fa=nodeP X.iv X.ic k0 ls.length):=⟨_,rfl⟩
 obtain⟨fc,hfc⟩:∃ fc,Hid (fc=nodeP X.iv X.ic k1 (ls.length+fa.length+3)):=⟨_,rfl⟩
 have HV:Hid (orV (nodeP X.iv X.ic k0) (nodeP X.iv X.ic k1) ls.length=fa++(31,((ls.length+fa.length+3:Nat):Int),none')::(1,1000000,none')::(30,((ls.length+fa.length+3+fc.length+1:Nat):Int),none')::(fc++[(28,0,none')])):=by show _=_;simp only[orV,← hfa.out,← hfc.out]
 have HT:Hid (ls++orV (nodeP X.iv X.ic k0) (nodeP X.iv X.ic k1) ls.length=ls++(fa++(31,((ls.length+fa.length+3:Nat):Int),none')::(1,1000000,none')::(30,((ls.length+fa.length+3+fc.length+1:Nat):Int),none')::(fc++[(28,0,none')]))):=by show _=_;simp only[HV.out]
 rw[HT.out]
 clear HV;have HA:Hid (At X w [(nb w op n s g 2 cap)] G S (fun k=>S0 k∨S1 k) ls (w.alloc (.cells #[.int .i64 op,.int .i64 n,.string ⟨s.toArray⟩,.slice (some ⟨g,0,none⟩) 2 cap] 51))):=(at_none hW hG (fun k hk=>hk.elim (fun h=>(t0 k h).1) (t1 k))).more _ _;have p0:=HA.out.box (b:=(nb w op n s g 2 cap)) (by simp) 3 rfl;have c0':=HA.out.wk c0;have c1':=HA.out.wk c1;have c2':=HA.out.wk c2;have c3':=HA.out.wk c3;have d0':=HA.out.wk d0;have d1':=HA.out.wk d1;have d2':=HA.out.wk d2;have d3':=HA.out.wk d3;clear hW hN hG
 go_enter Tryz.func145,Tryz.ntmps145
 go_wp2_with (go_at_call 101;refine hold ?_)
 refine Calls.mono (at_node (R':=S1) (x:=fa) hk0 HA.out i0 R0 (fun k hk=>.inr hk) (hfa.out)) ?_;clear p0 c0' c1' c2' c3' d0' d1' d2' d3';rintro e w1 (⟨rfl,hn,hB⟩|⟨rfl,hK⟩)
 ·clear HA;go_wp2_with fail
  exact⟨rfl,.inr ⟨rfl,by simp only[List.length_append,List.length_cons,List.length_nil] at hn ⊢;omega,hB⟩⟩
 have H1:Hid (At X w [(nb w op n s g 2 cap)] G S S1 (ls++fa) w1):=hK;have p0:=H1.out.box (b:=(nb w op n s g 2 cap)) (by simp) 3 rfl;have c0':=H1.out.wk c0;have c1':=H1.out.wk c1;have c2':=H1.out.wk c2;have c3':=H1.out.wk c3;have d0':=H1.out.wk d0;have d1':=H1.out.wk d1;have d2':=H1.out.wk d2;have d3':=H1.out.wk d3;clear hK HA
 obtain⟨jn,hjn⟩:∃ jn:Nat,Hid (jn=(ls++fa).length):=⟨_,rfl⟩
 go_wp2_with (go_at_call 102;refine hold ?_)
 refine Calls.mono (at_jump H1.out 31 hjn.out) ?_;clear p0 c0' c1' c2' c3' d0' d1' d2' d3';rintro e w2 (⟨rfl,hn,hB⟩|⟨rfl,hK⟩)
 ·clear H1;go_wp2_with fail
  exact⟨rfl,.inr ⟨rfl,by simp only[List.length_append,List.length_cons,List.length_nil] at hn ⊢;omega,hB⟩⟩
 have H2:Hid (At X w [(nb w op n s g 2 cap)] G S S1 ((ls++fa)++[((31,0,none'):Vl)]) w2):=hK;have p0:=H2.out.box (b:=(nb w op n s g 2 cap)) (by simp) 3 rfl;have c0':=H2.out.wk c0;have c1':=H2.out.wk c1;have c2':=H2.out.wk c2;have c3':=H2.out.wk c3;have d0':=H2.out.wk d0;have d1':=H2.out.wk d1;have d2':=H2.out.wk d2;have d3':=H2.out.wk d3;clear hK H1
 go_wp2_with (go_at_call 59;refine hold ?_)
 refine Calls.mono (at_put H2.out 1 1000000 none') ?_;clear p0 c0' c1' c2' c3' d0' d1' d2' d3';rintro e w3 (⟨rfl,hn,hB⟩|⟨rfl,hK⟩)
 ·clear H2;go_wp2_with fail
  exact⟨rfl,.inr ⟨rfl,by simp only[List.length_append,List.length_cons,List.length_nil] at hn ⊢;omega,hB⟩⟩
 have H3:Hid (At X w [(nb w op n s g 2 cap)] G S S1 (((ls++fa)++[((31,0,none'):Vl)])++[((1,1000000,none'):Vl)]) w3):=hK;have p0:=H3.out.box (b:=(nb w op n s g 2 cap)) (by simp) 3 rfl;have c0':=H3.out.wk c0;have c1':=H3.out.wk c1;have c2':=H3.out.wk c2;have c3':=H3.out.wk c3;have d0':=H3.out.wk d0;have d1':=H3.out.wk d1;have d2':=H3.out.wk d2;have d3':=H3.out.wk d3;clear hK H2
 obtain⟨je,hje⟩:∃ je:Nat,Hid (je=(((ls++fa)++[((31,0,none'):Vl)])++[((1,1000000,none'):Vl)]).length):=⟨_,rfl⟩
 go_wp2_with (go_at_call 102;refine hold ?_)
 refine Calls.mono (at_jump H3.out 30 hje.out) ?_;clear p0 c0' c1' c2' c3' d0' d1' d2' d3';rintro e w4 (⟨rfl,hn,hB⟩|⟨rfl,hK⟩)
 ·clear H3;go_wp2_with fail
  exact⟨rfl,.inr ⟨rfl,by simp only[List.length_append,List.length_cons,List.length_nil] at hn ⊢;omega,hB⟩⟩
 have H4:Hid (At X w [(nb w op n s g 2 cap)] G S S1 ((((ls++fa)++[((31,0,none'):Vl)])++[((1,1000000,none'):Vl)])++[((30,0,none'):Vl)]) w4):=hK;have p0:=H4.out.box (b:=(nb w op n s g 2 cap)) (by simp) 3 rfl;have c0':=H4.out.wk c0;have c1':=H4.out.wk c1;have c2':=H4.out.wk c2;have c3':=H4.out.wk c3;have d0':=H4.out.wk d0;have d1':=H4.out.wk d1;have d2':=H4.out.wk d2;have d3':=H4.out.wk d3;clear hK H3
 go_wp2_with (go_at_call 103;refine hold ?_)
 refine Calls.mono (at_land H4.out (l1:=(ls++fa)) (c:=31) (n:=0) (s:=none') (l2:=[(1,1000000,none'),(30,0,none')]) (by simp) (hjn.out.trans (by simp)) (N:=(ls.length+fa.length+3)) (by simp;omega)) ?_;clear p0 c0' c1' c2' c3' d0' d1' d2' d3';rintro e w5 ⟨rfl,hK⟩;have H5:Hid (At X w [(nb w op n s g 2 cap)] G S S1 ((ls++fa)++(31,(((ls.length+fa.length+3):Nat):Int),none')::[(1,1000000,none'),(30,0,none')]) w5):=hK;have p0:=H5.out.box (b:=(nb w op n s g 2 cap)) (by simp) 3 rfl;have c0':=H5.out.wk c0;have c1':=H5.out.wk c1;have c2':=H5.out.wk c2;have c3':=H5.out.wk c3;have d0':=H5.out.wk d0;have d1':=H5.out.wk d1;have d2':=H5.out.wk d2;have d3':=H5.out.wk d3;clear hK H4
 go_wp2_with (go_at_call 101;refine hold ?_)
 refine Calls.mono (at_node (R':=(fun _=>False)) (x:=fc) hk1 H5.out i1 R1 (fun k hk=>hk.elim) (by rw[hfc.out];congr 1;simp;omega)) ?_;clear p0 c0' c1' c2' c3' d0' d1' d2' d3';rintro e w6 (⟨rfl,hn,hB⟩|⟨rfl,hK⟩)
 ·clear H5;go_wp2_with fail
  exact⟨rfl,.inr ⟨rfl,by simp only[List.length_append,List.length_cons,List.length_nil] at hn ⊢;omega,hB⟩⟩
 have H6:Hid (At X w [(nb w op n s g 2 cap)] G S (fun _=>False) (((ls++fa)++(31,(((ls.length+fa.length+3):Nat):Int),none')::[(1,1000000,none'),(30,0,none')])++fc) w6):=hK;have p0:=H6.out.box (b:=(nb w op n s g 2 cap)) (by simp) 3 rfl;have c0':=H6.out.wk c0;have c1':=H6.out.wk c1;have c2':=H6.out.wk c2;have c3':=H6.out.wk c3;have d0':=H6.out.wk d0;have d1':=H6.out.wk d1;have d2':=H6.out.wk d2;have d3':=H6.out.wk d3;clear hK H5
 go_wp2_with (go_at_call 59;refine hold ?_)
 refine Calls.mono (at_put H6.out 28 0 none') ?_;clear p0 c0' c1' c2' c3' d0' d1' d2' d3';rintro e w7 (⟨rfl,hn,hB⟩|⟨rfl,hK⟩)
 ·clear H6;go_wp2_with fail
  exact⟨rfl,.inr ⟨rfl,by simp only[List.length_append,List.length_cons,List.length_nil] at hn ⊢;omega,hB⟩⟩
 have H7:Hid (At X w [(nb w op n s g 2 cap)] G S (fun _=>False) ((((ls++fa)++(31,(((ls.length+fa.length+3):Nat):Int),none')::[(1,1000000,none'),(30,0,none')])++fc)++[((28,0,none'):Vl)]) w7):=hK;have p0:=H7.out.box (b:=(nb w op n s g 2 cap)) (by simp) 3 rfl;have c0':=H7.out.wk c0;have c1':=H7.out.wk c1;have c2':=H7.out.wk c2;have c3':=H7.out.wk c3;have d0':=H7.out.wk d0;have d1':=H7.out.wk d1;have d2':=H7.out.wk d2;have d3':=H7.out.wk d3;clear hK H6
 go_wp2_with (go_at_call 103;refine hold ?_)
 refine Calls.mono (at_land H7.out (l1:=(ls++fa++[(31,((ls.length+fa.length+3:Nat):Int),none'),(1,1000000,none')])) (c:=30) (n:=0) (s:=none') (l2:=(fc++[(28,0,none')])) (by simp) (hje.out.trans (by simp)) (N:=(ls.length+fa.length+3+fc.length+1)) (by simp;omega)) ?_;clear p0 c0' c1' c2' c3' d0' d1' d2' d3';rintro e w8 ⟨rfl,hK⟩;have H8:Hid (At X w [(nb w op n s g 2 cap)] G S (fun _=>False) ((ls++fa++[(31,((ls.length+fa.length+3:Nat):Int),none'),(1,1000000,none')])++(30,(((ls.length+fa.length+3+fc.length+1):Nat):Int),none')::(fc++[(28,0,none')])) w8):=hK;have p0:=H8.out.box (b:=(nb w op n s g 2 cap)) (by simp) 3 rfl;have c0':=H8.out.wk c0;have c1':=H8.out.wk c1;have c2':=H8.out.wk c2;have c3':=H8.out.wk c3;have d0':=H8.out.wk d0;have d1':=H8.out.wk d1;have d2':=H8.out.wk d2;have d3':=H8.out.wk d3;clear hK H7;clear p0 c0' c1' c2' c3' d0' d1' d2' d3';go_wp2_with fail;refine bodyPost_end (v:=.tuple #[]) ?_ rfl (H8.out.ends (by simp));simp[results,Tryz.results145]

end Cm
namespace Cm
open St (Vl encV)
open Nd Ty
open Oc (hold Blk)

set_option maxHeartbeats 1000000 in
set_option maxRecDepth 100000 in
theorem iChoice {X:Fx}{op n:Int}{s:List UInt8}{k0 k1:Data}(hk0:NodeOk X k0)(hk1:BlockOk X k1){ls:List Vl}{G:List Nat}{w:World}{S:Nat→Prop}{a b c u:Value}(hW:Wk X ls G w)(hN:NodeIs X.W (nd op n s [k0,k1]) S [a,b,c,u])(hG:∀ g∈G,¬ S g):
  Calls Tryz.prog 142 #[.pointer (some ⟨X.p,0,none⟩),.agg #[a,b,c,u]] w fun e w'=>RanS X (ls++ifV (nodeP X.iv X.ic k0) (seqOf X.iv X.ic (kidsOf k1)) ls.length) G S w e w':=by
 obtain⟨g,cap,x0,x1,x2,x3,y0,y1,y2,y3,S0,S1,T⟩:=kids2 hN
 have hv:=T.val;simp at hv
 obtain⟨rfl,rfl,rfl,rfl⟩:=hv
 obtain⟨ao0,cap0,rfl,rfl,rfl,rfl⟩:=node_vals T.k0
 obtain⟨ao1,cap1,rfl,rfl,rfl,rfl⟩:=node_vals T.k1
 obtain⟨-,hgl,-,c0,c1,c2,c3,d0,d1,d2,d3,i0,i1,t0,t1⟩:=T
 have R0:∀ k,S0 k→S k∧(S0 k∨S1 k)∧¬ S1 k:=fun k hk=>⟨(t0 k hk).1,.inl hk,(t0 k hk).2⟩;have R1:∀ k,S1 k→S k∧S1 k∧¬ False:=fun k hk=>⟨t1 k hk,hk,id⟩
 obtain⟨fa,hfa⟩:∃ fa,Hid (fa=nodeP X.iv X.ic k0 ls.length):=⟨_,rfl⟩
 obtain⟨fc,hfc⟩:∃ fc,Hid (fc=seqOf X.iv X.ic (kidsOf k1) (ls.length+fa.length+1)):=⟨_,rfl⟩
 have HV:Hid (ifV (nodeP X.iv X.ic k0) (seqOf X.iv X.ic (kidsOf k1)) ls.length=fa++(31,((ls.length+fa.length+1+fc.length:Nat):Int),none')::fc):=by show _=_;simp only[ifV,← hfa.out,← hfc.out]
 have HT:Hid (ls++ifV (nodeP X.iv X.ic k0) (seqOf X.iv X.ic (kidsOf k1)) ls.length=ls++(fa++(31,((ls.length+fa.length+1+fc.length:Nat):Int),none')::fc)):=by show _=_;simp only[HV.out]
 rw[HT.out]
 clear HV;have HA:Hid (At X w [(nb w op n s g 2 cap)] G S (fun k=>S0 k∨S1 k) ls (w.alloc (.cells #[.int .i64 op,.int .i64 n,.string ⟨s.toArray⟩,.slice (some ⟨g,0,none⟩) 2 cap] 51))):=(at_none hW hG (fun k hk=>hk.elim (fun h=>(t0 k h).1) (t1 k))).more _ _;have p0:=HA.out.box (b:=(nb w op n s g 2 cap)) (by simp) 3 rfl;have c0':=HA.out.wk c0;have c1':=HA.out.wk c1;have c2':=HA.out.wk c2;have c3':=HA.out.wk c3;have d0':=HA.out.wk d0;have d1':=HA.out.wk d1;have d2':=HA.out.wk d2;have d3':=HA.out.wk d3;clear hW hN hG
 go_enter Tryz.func142,Tryz.ntmps142
 go_wp2_with (go_at_call 101;refine hold ?_)
 refine Calls.mono (at_node (R':=S1) (x:=fa) hk0 HA.out i0 R0 (fun k hk=>.inr hk) (hfa.out)) ?_;clear p0 c0' c1' c2' c3' d0' d1' d2' d3';rintro e w1 (⟨rfl,hn,hB⟩|⟨rfl,hK⟩)
 ·clear HA;go_wp2_with fail
  exact⟨rfl,.inr ⟨rfl,by simp only[List.length_append,List.length_cons] at hn ⊢;omega,hB⟩⟩
 have H1:Hid (At X w [(nb w op n s g 2 cap)] G S S1 (ls++fa) w1):=hK;have p0:=H1.out.box (b:=(nb w op n s g 2 cap)) (by simp) 3 rfl;have c0':=H1.out.wk c0;have c1':=H1.out.wk c1;have c2':=H1.out.wk c2;have c3':=H1.out.wk c3;have d0':=H1.out.wk d0;have d1':=H1.out.wk d1;have d2':=H1.out.wk d2;have d3':=H1.out.wk d3;clear hK HA
 obtain⟨jn,hjn⟩:∃ jn:Nat,Hid (jn=(ls++fa).length):=⟨_,rfl⟩
 go_wp2_with (go_at_call 102;refine hold ?_)
 refine Calls.mono (at_jump H1.out 31 hjn.out) ?_;clear p0 c0' c1' c2' c3' d0' d1' d2' d3';rintro e w2 (⟨rfl,hn,hB⟩|⟨rfl,hK⟩)
 ·clear H1;go_wp2_with fail
  exact⟨rfl,.inr ⟨rfl,by simp only[List.length_append,List.length_cons,List.length_nil] at hn ⊢;omega,hB⟩⟩
 have H2:Hid (At X w [(nb w op n s g 2 cap)] G S S1 ((ls++fa)++[((31,0,none'):Vl)]) w2):=hK;have p0:=H2.out.box (b:=(nb w op n s g 2 cap)) (by simp) 3 rfl;have c0':=H2.out.wk c0;have c1':=H2.out.wk c1;have c2':=H2.out.wk c2;have c3':=H2.out.wk c3;have d0':=H2.out.wk d0;have d1':=H2.out.wk d1;have d2':=H2.out.wk d2;have d3':=H2.out.wk d3;clear hK H1
 go_wp2_with (go_at_call 100;refine hold ?_)
 refine Calls.mono (at_block (R':=(fun _=>False)) (x:=fc) hk1 H2.out i1 R1 (fun k hk=>hk.elim) (by rw[hfc.out];congr 1;simp;omega)) ?_;clear p0 c0' c1' c2' c3' d0' d1' d2' d3';rintro e w3 (⟨rfl,hn,hB⟩|⟨rfl,hK⟩)
 ·clear H2;go_wp2_with fail
  exact⟨rfl,.inr ⟨rfl,by simp only[List.length_append,List.length_cons,List.length_nil] at hn ⊢;omega,hB⟩⟩
 have H3:Hid (At X w [(nb w op n s g 2 cap)] G S (fun _=>False) (((ls++fa)++[((31,0,none'):Vl)])++fc) w3):=hK;have p0:=H3.out.box (b:=(nb w op n s g 2 cap)) (by simp) 3 rfl;have c0':=H3.out.wk c0;have c1':=H3.out.wk c1;have c2':=H3.out.wk c2;have c3':=H3.out.wk c3;have d0':=H3.out.wk d0;have d1':=H3.out.wk d1;have d2':=H3.out.wk d2;have d3':=H3.out.wk d3;clear hK H2
 go_wp2_with (go_at_call 103;refine hold ?_)
 refine Calls.mono (at_land H3.out (l1:=(ls++fa)) (c:=31) (n:=0) (s:=none') (l2:=fc) (by simp) (hjn.out.trans (by simp)) (N:=(ls.length+fa.length+1+fc.length)) (by simp;omega)) ?_;clear p0 c0' c1' c2' c3' d0' d1' d2' d3';rintro e w4 ⟨rfl,hK⟩;have H4:Hid (At X w [(nb w op n s g 2 cap)] G S (fun _=>False) ((ls++fa)++(31,(((ls.length+fa.length+1+fc.length):Nat):Int),none')::fc) w4):=hK;have p0:=H4.out.box (b:=(nb w op n s g 2 cap)) (by simp) 3 rfl;have c0':=H4.out.wk c0;have c1':=H4.out.wk c1;have c2':=H4.out.wk c2;have c3':=H4.out.wk c3;have d0':=H4.out.wk d0;have d1':=H4.out.wk d1;have d2':=H4.out.wk d2;have d3':=H4.out.wk d3;clear hK H3;clear p0 c0' c1' c2' c3' d0' d1' d2' d3';go_wp2_with fail;refine bodyPost_end (v:=.tuple #[]) ?_ rfl (H4.out.ends (by simp));simp[results,Tryz.results142]

set_option maxHeartbeats 1000000 in
set_option maxRecDepth 100000 in
theorem iChoice3 {X:Fx}{op n:Int}{s:List UInt8}{k0 k1 k2:Data}(hk0:NodeOk X k0)(hk1:BlockOk X k1)(hk2:BlockOk X k2){ls:List Vl}{G:List Nat}{w:World}{S:Nat→Prop}{a b c u:Value}(hW:Wk X ls G w)(hN:NodeIs X.W (nd op n s [k0,k1,k2]) S [a,b,c,u])(hG:∀ g∈G,¬ S g):
  Calls Tryz.prog 142 #[.pointer (some ⟨X.p,0,none⟩),.agg #[a,b,c,u]] w fun e w'=>RanS X (ls++elseV (nodeP X.iv X.ic k0) (seqOf X.iv X.ic (kidsOf k1)) (seqOf X.iv X.ic (kidsOf k2)) ls.length) G S w e w':=by
 obtain⟨g,cap,x0,x1,x2,x3,y0,y1,y2,y3,z0,z1,z2,z3,S0,S1,S2,hv,hgl,c0,c1,c2,c3,d0,d1,d2,d3,e0,e1,e2,e3,i0,i1,i2,t0,t1,t2⟩:=kids3 hN
 simp at hv
 obtain⟨rfl,rfl,rfl,rfl⟩:=hv
 obtain⟨ao0,cap0,rfl,rfl,rfl,rfl⟩:=node_vals i0
 obtain⟨ao1,cap1,rfl,rfl,rfl,rfl⟩:=node_vals i1
 obtain⟨ao2,cap2,rfl,rfl,rfl,rfl⟩:=node_vals i2
 have R0:∀ k,S0 k→S k∧(S0 k∨S1 k∨S2 k)∧¬ (S1 k∨S2 k):=fun k hk=>⟨(t0 k hk).1,.inl hk,fun h=>h.elim (t0 k hk).2.1 (t0 k hk).2.2⟩;have R1:∀ k,S1 k→S k∧(S1 k∨S2 k)∧¬ S2 k:=fun k hk=>⟨(t1 k hk).1,.inl hk,(t1 k hk).2⟩;have R2:∀ k,S2 k→S k∧S2 k∧¬ False:=fun k hk=>⟨t2 k hk,hk,id⟩
 obtain⟨fa,hfa⟩:∃ fa,Hid (fa=nodeP X.iv X.ic k0 ls.length):=⟨_,rfl⟩
 obtain⟨fc,hfc⟩:∃ fc,Hid (fc=seqOf X.iv X.ic (kidsOf k1) (ls.length+fa.length+1)):=⟨_,rfl⟩
 obtain⟨fd,hfd⟩:∃ fd,Hid (fd=seqOf X.iv X.ic (kidsOf k2) (ls.length+fa.length+1+fc.length+1)):=⟨_,rfl⟩
 have HV:Hid (elseV (nodeP X.iv X.ic k0) (seqOf X.iv X.ic (kidsOf k1)) (seqOf X.iv X.ic (kidsOf k2)) ls.length=fa++(31,((ls.length+fa.length+1+fc.length+1:Nat):Int),none')::(fc++(30,((ls.length+fa.length+1+fc.length+1+fd.length:Nat):Int),none')::fd)):=by show _=_;simp only[elseV,← hfa.out,← hfc.out,← hfd.out]
 have HT:Hid (ls++elseV (nodeP X.iv X.ic k0) (seqOf X.iv X.ic (kidsOf k1)) (seqOf X.iv X.ic (kidsOf k2)) ls.length=ls++(fa++(31,((ls.length+fa.length+1+fc.length+1:Nat):Int),none')::(fc++(30,((ls.length+fa.length+1+fc.length+1+fd.length:Nat):Int),none')::fd))):=by show _=_;simp only[HV.out]
 rw[HT.out]
 clear HV;have HA:Hid (At X w [(nb w op n s g 3 cap)] G S (fun k=>S0 k∨S1 k∨S2 k) ls (w.alloc (.cells #[.int .i64 op,.int .i64 n,.string ⟨s.toArray⟩,.slice (some ⟨g,0,none⟩) 3 cap] 51))):=(at_none hW hG (fun k hk=>hk.elim (fun h=>(t0 k h).1) fun h=>h.elim (fun h=>(t1 k h).1) (t2 k))).more _ _;have p0:=HA.out.box (b:=(nb w op n s g 3 cap)) (by simp) 3 rfl;have c0':=HA.out.wk c0;have c1':=HA.out.wk c1;have c2':=HA.out.wk c2;have c3':=HA.out.wk c3;have d0':=HA.out.wk d0;have d1':=HA.out.wk d1;have d2':=HA.out.wk d2;have d3':=HA.out.wk d3;have e0':=HA.out.wk e0;have e1':=HA.out.wk e1;have e2':=HA.out.wk e2;have e3':=HA.out.wk e3;clear hW hN hG
 go_enter Tryz.func142,Tryz.ntmps142
 go_wp2_with (go_at_call 101;refine hold ?_)
 refine Calls.mono (at_node (R':=(fun k=>S1 k∨S2 k)) (x:=fa) hk0 HA.out i0 R0 (fun k hk=>.inr hk) (hfa.out)) ?_;clear p0 c0' c1' c2' c3' d0' d1' d2' d3' e0' e1' e2' e3';rintro e w1 (⟨rfl,hn,hB⟩|⟨rfl,hK⟩)
 ·clear HA;go_wp2_with fail
  exact⟨rfl,.inr ⟨rfl,by simp only[List.length_append,List.length_cons] at hn ⊢;omega,hB⟩⟩
 have H1:Hid (At X w [(nb w op n s g 3 cap)] G S (fun k=>S1 k∨S2 k) (ls++fa) w1):=hK;have p0:=H1.out.box (b:=(nb w op n s g 3 cap)) (by simp) 3 rfl;have c0':=H1.out.wk c0;have c1':=H1.out.wk c1;have c2':=H1.out.wk c2;have c3':=H1.out.wk c3;have d0':=H1.out.wk d0;have d1':=H1.out.wk d1;have d2':=H1.out.wk d2;have d3':=H1.out.wk d3;have e0':=H1.out.wk e0;have e1':=H1.out.wk e1;have e2':=H1.out.wk e2;have e3':=H1.out.wk e3;clear hK HA
 obtain⟨jn,hjn⟩:∃ jn:Nat,Hid (jn=(ls++fa).length):=⟨_,rfl⟩
 go_wp2_with (go_at_call 102;refine hold ?_)
 refine Calls.mono (at_jump H1.out 31 hjn.out) ?_;clear p0 c0' c1' c2' c3' d0' d1' d2' d3' e0' e1' e2' e3';rintro e w2 (⟨rfl,hn,hB⟩|⟨rfl,hK⟩)
 ·clear H1;go_wp2_with fail
  exact⟨rfl,.inr ⟨rfl,by simp only[List.length_append,List.length_cons,List.length_nil] at hn ⊢;omega,hB⟩⟩
 have H2:Hid (At X w [(nb w op n s g 3 cap)] G S (fun k=>S1 k∨S2 k) ((ls++fa)++[((31,0,none'):Vl)]) w2):=hK;have p0:=H2.out.box (b:=(nb w op n s g 3 cap)) (by simp) 3 rfl;have c0':=H2.out.wk c0;have c1':=H2.out.wk c1;have c2':=H2.out.wk c2;have c3':=H2.out.wk c3;have d0':=H2.out.wk d0;have d1':=H2.out.wk d1;have d2':=H2.out.wk d2;have d3':=H2.out.wk d3;have e0':=H2.out.wk e0;have e1':=H2.out.wk e1;have e2':=H2.out.wk e2;have e3':=H2.out.wk e3;clear hK H1
 go_wp2_with (go_at_call 100;refine hold ?_)
 refine Calls.mono (at_block (R':=S2) (x:=fc) hk1 H2.out i1 R1 (fun k hk=>.inr hk) (by rw[hfc.out];congr 1;simp;omega)) ?_;clear p0 c0' c1' c2' c3' d0' d1' d2' d3' e0' e1' e2' e3';rintro e w3 (⟨rfl,hn,hB⟩|⟨rfl,hK⟩)
 ·clear H2;go_wp2_with fail
  exact⟨rfl,.inr ⟨rfl,by simp only[List.length_append,List.length_cons,List.length_nil] at hn ⊢;omega,hB⟩⟩
 have H3:Hid (At X w [(nb w op n s g 3 cap)] G S S2 (((ls++fa)++[((31,0,none'):Vl)])++fc) w3):=hK;have p0:=H3.out.box (b:=(nb w op n s g 3 cap)) (by simp) 3 rfl;have c0':=H3.out.wk c0;have c1':=H3.out.wk c1;have c2':=H3.out.wk c2;have c3':=H3.out.wk c3;have d0':=H3.out.wk d0;have d1':=H3.out.wk d1;have d2':=H3.out.wk d2;have d3':=H3.out.wk d3;have e0':=H3.out.wk e0;have e1':=H3.out.wk e1;have e2':=H3.out.wk e2;have e3':=H3.out.wk e3;clear hK H2
 obtain⟨je,hje⟩:∃ je:Nat,Hid (je=(((ls++fa)++[((31,0,none'):Vl)])++fc).length):=⟨_,rfl⟩
 go_wp2_with (go_at_call 102;refine hold ?_)
 refine Calls.mono (at_jump H3.out 30 hje.out) ?_;clear p0 c0' c1' c2' c3' d0' d1' d2' d3' e0' e1' e2' e3';rintro e w4 (⟨rfl,hn,hB⟩|⟨rfl,hK⟩)
 ·clear H3;go_wp2_with fail
  exact⟨rfl,.inr ⟨rfl,by simp only[List.length_append,List.length_cons,List.length_nil] at hn ⊢;omega,hB⟩⟩
 have H4:Hid (At X w [(nb w op n s g 3 cap)] G S S2 ((((ls++fa)++[((31,0,none'):Vl)])++fc)++[((30,0,none'):Vl)]) w4):=hK;have p0:=H4.out.box (b:=(nb w op n s g 3 cap)) (by simp) 3 rfl;have c0':=H4.out.wk c0;have c1':=H4.out.wk c1;have c2':=H4.out.wk c2;have c3':=H4.out.wk c3;have d0':=H4.out.wk d0;have d1':=H4.out.wk d1;have d2':=H4.out.wk d2;have d3':=H4.out.wk d3;have e0':=H4.out.wk e0;have e1':=H4.out.wk e1;have e2':=H4.out.wk e2;have e3':=H4.out.wk e3;clear hK H3
 go_wp2_with (go_at_call 103;refine hold ?_)
 refine Calls.mono (at_land H4.out (l1:=(ls++fa)) (c:=31) (n:=0) (s:=none') (l2:=(fc++[(30,0,none')])) (by simp) (hjn.out.trans (by simp)) (N:=(ls.length+fa.length+1+fc.length+1)) (by simp;omega)) ?_;clear p0 c0' c1' c2' c3' d0' d1' d2' d3' e0' e1' e2' e3';rintro e w5 ⟨rfl,hK⟩;have H5:Hid (At X w [(nb w op n s g 3 cap)] G S S2 ((ls++fa)++(31,(((ls.length+fa.length+1+fc.length+1):Nat):Int),none')::(fc++[(30,0,none')])) w5):=hK;have p0:=H5.out.box (b:=(nb w op n s g 3 cap)) (by simp) 3 rfl;have c0':=H5.out.wk c0;have c1':=H5.out.wk c1;have c2':=H5.out.wk c2;have c3':=H5.out.wk c3;have d0':=H5.out.wk d0;have d1':=H5.out.wk d1;have d2':=H5.out.wk d2;have d3':=H5.out.wk d3;have e0':=H5.out.wk e0;have e1':=H5.out.wk e1;have e2':=H5.out.wk e2;have e3':=H5.out.wk e3;clear hK H4
 go_wp2_with (go_at_call 100;refine hold ?_)
 refine Calls.mono (at_block (R':=(fun _=>False)) (x:=fd) hk2 H5.out i2 R2 (fun k hk=>hk.elim) (by rw[hfd.out];congr 1;simp;omega)) ?_;clear p0 c0' c1' c2' c3' d0' d1' d2' d3' e0' e1' e2' e3';rintro e w6 (⟨rfl,hn,hB⟩|⟨rfl,hK⟩)
 ·clear H5;go_wp2_with fail
  exact⟨rfl,.inr ⟨rfl,by simp only[List.length_append,List.length_cons,List.length_nil] at hn ⊢;omega,hB⟩⟩
 have H6:Hid (At X w [(nb w op n s g 3 cap)] G S (fun _=>False) (((ls++fa)++(31,(((ls.length+fa.length+1+fc.length+1):Nat):Int),none')::(fc++[(30,0,none')]))++fd) w6):=hK;have p0:=H6.out.box (b:=(nb w op n s g 3 cap)) (by simp) 3 rfl;have c0':=H6.out.wk c0;have c1':=H6.out.wk c1;have c2':=H6.out.wk c2;have c3':=H6.out.wk c3;have d0':=H6.out.wk d0;have d1':=H6.out.wk d1;have d2':=H6.out.wk d2;have d3':=H6.out.wk d3;have e0':=H6.out.wk e0;have e1':=H6.out.wk e1;have e2':=H6.out.wk e2;have e3':=H6.out.wk e3;clear hK H5
 go_wp2_with (go_at_call 103;refine hold ?_)
 refine Calls.mono (at_land H6.out (l1:=(ls++fa++(31,((ls.length+fa.length+1+fc.length+1:Nat):Int),none')::fc)) (c:=30) (n:=0) (s:=none') (l2:=fd) (by simp) (hje.out.trans (by simp)) (N:=(ls.length+fa.length+1+fc.length+1+fd.length)) (by simp;omega)) ?_;clear p0 c0' c1' c2' c3' d0' d1' d2' d3' e0' e1' e2' e3';rintro e w7 ⟨rfl,hK⟩;have H7:Hid (At X w [(nb w op n s g 3 cap)] G S (fun _=>False) ((ls++fa++(31,((ls.length+fa.length+1+fc.length+1:Nat):Int),none')::fc)++(30,(((ls.length+fa.length+1+fc.length+1+fd.length):Nat):Int),none')::fd) w7):=hK;have p0:=H7.out.box (b:=(nb w op n s g 3 cap)) (by simp) 3 rfl;have c0':=H7.out.wk c0;have c1':=H7.out.wk c1;have c2':=H7.out.wk c2;have c3':=H7.out.wk c3;have d0':=H7.out.wk d0;have d1':=H7.out.wk d1;have d2':=H7.out.wk d2;have d3':=H7.out.wk d3;have e0':=H7.out.wk e0;have e1':=H7.out.wk e1;have e2':=H7.out.wk e2;have e3':=H7.out.wk e3;clear hK H6;clear p0 c0' c1' c2' c3' d0' d1' d2' d3' e0' e1' e2' e3';go_wp2_with fail;refine bodyPost_end (v:=.tuple #[]) ?_ rfl (H7.out.ends (by simp));simp[results,Tryz.results142]

set_option maxHeartbeats 1000000 in
set_option maxRecDepth 100000 in
theorem iLoop {X:Fx}{op n:Int}{s:List UInt8}{k0 k1:Data}(hk0:NodeOk X k0)(hk1:BlockOk X k1){ls:List Vl}{G:List Nat}{w:World}{S:Nat→Prop}{a b c u:Value}(hW:Wk X ls G w)(hN:NodeIs X.W (nd op n s [k0,k1]) S [a,b,c,u])(hG:∀ g∈G,¬ S g):
  Calls Tryz.prog 143 #[.pointer (some ⟨X.p,0,none⟩),.agg #[a,b,c,u]] w fun e w'=>RanS X (ls++whileV (nodeP X.iv X.ic k0) (seqOf X.iv X.ic (kidsOf k1)) ls.length) G S w e w':=by
 obtain⟨g,cap,x0,x1,x2,x3,y0,y1,y2,y3,S0,S1,T⟩:=kids2 hN
 have hv:=T.val;simp at hv
 obtain⟨rfl,rfl,rfl,rfl⟩:=hv
 obtain⟨ao0,cap0,rfl,rfl,rfl,rfl⟩:=node_vals T.k0
 obtain⟨ao1,cap1,rfl,rfl,rfl,rfl⟩:=node_vals T.k1
 obtain⟨-,hgl,-,c0,c1,c2,c3,d0,d1,d2,d3,i0,i1,t0,t1⟩:=T
 have R0:∀ k,S0 k→S k∧(S0 k∨S1 k)∧¬ S1 k:=fun k hk=>⟨(t0 k hk).1,.inl hk,(t0 k hk).2⟩;have R1:∀ k,S1 k→S k∧S1 k∧¬ False:=fun k hk=>⟨t1 k hk,hk,id⟩
 obtain⟨fa,hfa⟩:∃ fa,Hid (fa=nodeP X.iv X.ic k0 ls.length):=⟨_,rfl⟩
 obtain⟨fc,hfc⟩:∃ fc,Hid (fc=seqOf X.iv X.ic (kidsOf k1) (ls.length+fa.length+1)):=⟨_,rfl⟩
 have HV:Hid (whileV (nodeP X.iv X.ic k0) (seqOf X.iv X.ic (kidsOf k1)) ls.length=fa++(31,((ls.length+fa.length+1+fc.length+1:Nat):Int),none')::(fc++[(30,(ls.length:Int),none')])):=by show _=_;simp only[whileV,← hfa.out,← hfc.out]
 have HT:Hid (ls++whileV (nodeP X.iv X.ic k0) (seqOf X.iv X.ic (kidsOf k1)) ls.length=ls++(fa++(31,((ls.length+fa.length+1+fc.length+1:Nat):Int),none')::(fc++[(30,(ls.length:Int),none')]))):=by show _=_;simp only[HV.out]
 rw[HT.out]
 clear HV;have HA:Hid (At X w [(nb w op n s g 2 cap)] G S (fun k=>S0 k∨S1 k) ls (w.alloc (.cells #[.int .i64 op,.int .i64 n,.string ⟨s.toArray⟩,.slice (some ⟨g,0,none⟩) 2 cap] 51))):=(at_none hW hG (fun k hk=>hk.elim (fun h=>(t0 k h).1) (t1 k))).more _ _;have p0:=HA.out.box (b:=(nb w op n s g 2 cap)) (by simp) 3 rfl;have c0':=HA.out.wk c0;have c1':=HA.out.wk c1;have c2':=HA.out.wk c2;have c3':=HA.out.wk c3;have d0':=HA.out.wk d0;have d1':=HA.out.wk d1;have d2':=HA.out.wk d2;have d3':=HA.out.wk d3
 obtain⟨aoP,capP,qP⟩:∃ aoP capP,(w.alloc (.cells #[.int .i64 op,.int .i64 n,.string ⟨s.toArray⟩,.slice (some ⟨g,0,none⟩) 2 cap] 51)).cell? ⟨X.p,2,none⟩=some (.slice aoP ls.length capP):=by
  obtain⟨_,_,h2,_,_⟩:=HA.out
  obtain⟨ao,cap,h3,_⟩:=h2.blk
  exact⟨ao,cap,h3.cell 2 rfl⟩
 clear hW hN hG
 go_enter Tryz.func143,Tryz.ntmps143
 go_wp2_with (go_at_call 101;refine hold ?_)
 refine Calls.mono (at_node (R':=S1) (x:=fa) hk0 HA.out i0 R0 (fun k hk=>.inr hk) (hfa.out)) ?_;clear p0 c0' c1' c2' c3' d0' d1' d2' d3';rintro e w1 (⟨rfl,hn,hB⟩|⟨rfl,hK⟩)
 ·clear HA;go_wp2_with fail
  exact⟨rfl,.inr ⟨rfl,by simp only[List.length_append,List.length_cons,List.length_nil] at hn ⊢;omega,hB⟩⟩
 have H1:Hid (At X w [(nb w op n s g 2 cap)] G S S1 (ls++fa) w1):=hK;have p0:=H1.out.box (b:=(nb w op n s g 2 cap)) (by simp) 3 rfl;have c0':=H1.out.wk c0;have c1':=H1.out.wk c1;have c2':=H1.out.wk c2;have c3':=H1.out.wk c3;have d0':=H1.out.wk d0;have d1':=H1.out.wk d1;have d2':=H1.out.wk d2;have d3':=H1.out.wk d3;clear hK HA
 obtain⟨jn,hjn⟩:∃ jn:Nat,Hid (jn=(ls++fa).length):=⟨_,rfl⟩
 go_wp2_with (go_at_call 102;refine hold ?_)
 refine Calls.mono (at_jump H1.out 31 hjn.out) ?_;clear p0 c0' c1' c2' c3' d0' d1' d2' d3';rintro e w2 (⟨rfl,hn,hB⟩|⟨rfl,hK⟩)
 ·clear H1;go_wp2_with fail
  exact⟨rfl,.inr ⟨rfl,by simp only[List.length_append,List.length_cons,List.length_nil] at hn ⊢;omega,hB⟩⟩
 have H2:Hid (At X w [(nb w op n s g 2 cap)] G S S1 ((ls++fa)++[((31,0,none'):Vl)]) w2):=hK;have p0:=H2.out.box (b:=(nb w op n s g 2 cap)) (by simp) 3 rfl;have c0':=H2.out.wk c0;have c1':=H2.out.wk c1;have c2':=H2.out.wk c2;have c3':=H2.out.wk c3;have d0':=H2.out.wk d0;have d1':=H2.out.wk d1;have d2':=H2.out.wk d2;have d3':=H2.out.wk d3;clear hK H1
 go_wp2_with (go_at_call 100;refine hold ?_)
 refine Calls.mono (at_block (R':=(fun _=>False)) (x:=fc) hk1 H2.out i1 R1 (fun k hk=>hk.elim) (by rw[hfc.out];congr 1;simp;omega)) ?_;clear p0 c0' c1' c2' c3' d0' d1' d2' d3';rintro e w3 (⟨rfl,hn,hB⟩|⟨rfl,hK⟩)
 ·clear H2;go_wp2_with fail
  exact⟨rfl,.inr ⟨rfl,by simp only[List.length_append,List.length_cons,List.length_nil] at hn ⊢;omega,hB⟩⟩
 have H3:Hid (At X w [(nb w op n s g 2 cap)] G S (fun _=>False) (((ls++fa)++[((31,0,none'):Vl)])++fc) w3):=hK;have p0:=H3.out.box (b:=(nb w op n s g 2 cap)) (by simp) 3 rfl;have c0':=H3.out.wk c0;have c1':=H3.out.wk c1;have c2':=H3.out.wk c2;have c3':=H3.out.wk c3;have d0':=H3.out.wk d0;have d1':=H3.out.wk d1;have d2':=H3.out.wk d2;have d3':=H3.out.wk d3;clear hK H2
 go_wp2_with (go_at_call 59;refine hold ?_)
 refine Calls.mono (at_put H3.out 30 (ls.length:Int) none') ?_;clear p0 c0' c1' c2' c3' d0' d1' d2' d3';rintro e w4 (⟨rfl,hn,hB⟩|⟨rfl,hK⟩)
 ·clear H3;go_wp2_with fail
  exact⟨rfl,.inr ⟨rfl,by simp only[List.length_append,List.length_cons,List.length_nil] at hn ⊢;omega,hB⟩⟩
 have H4:Hid (At X w [(nb w op n s g 2 cap)] G S (fun _=>False) ((((ls++fa)++[((31,0,none'):Vl)])++fc)++[((30,(ls.length:Int),none'):Vl)]) w4):=hK;have p0:=H4.out.box (b:=(nb w op n s g 2 cap)) (by simp) 3 rfl;have c0':=H4.out.wk c0;have c1':=H4.out.wk c1;have c2':=H4.out.wk c2;have c3':=H4.out.wk c3;have d0':=H4.out.wk d0;have d1':=H4.out.wk d1;have d2':=H4.out.wk d2;have d3':=H4.out.wk d3;clear hK H3
 go_wp2_with (go_at_call 103;refine hold ?_)
 refine Calls.mono (at_land H4.out (l1:=(ls++fa)) (c:=31) (n:=0) (s:=none') (l2:=(fc++[(30,(ls.length:Int),none')])) (by simp) (hjn.out.trans (by simp)) (N:=(ls.length+fa.length+1+fc.length+1)) (by simp;omega)) ?_;clear p0 c0' c1' c2' c3' d0' d1' d2' d3';rintro e w5 ⟨rfl,hK⟩;have H5:Hid (At X w [(nb w op n s g 2 cap)] G S (fun _=>False) ((ls++fa)++(31,(((ls.length+fa.length+1+fc.length+1):Nat):Int),none')::(fc++[(30,(ls.length:Int),none')])) w5):=hK;have p0:=H5.out.box (b:=(nb w op n s g 2 cap)) (by simp) 3 rfl;have c0':=H5.out.wk c0;have c1':=H5.out.wk c1;have c2':=H5.out.wk c2;have c3':=H5.out.wk c3;have d0':=H5.out.wk d0;have d1':=H5.out.wk d1;have d2':=H5.out.wk d2;have d3':=H5.out.wk d3;clear hK H4;clear p0 c0' c1' c2' c3' d0' d1' d2' d3';go_wp2_with fail;refine bodyPost_end (v:=.tuple #[]) ?_ rfl (H5.out.ends (by simp));simp[results,Tryz.results143]

end Cm
end Go.Proofs.YtllbachngocmnaaGreatDoor
