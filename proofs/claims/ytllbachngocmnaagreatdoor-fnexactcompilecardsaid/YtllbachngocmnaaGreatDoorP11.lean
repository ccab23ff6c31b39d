/-
  How many places a tree has, at most; and that they hang on the numbers of its names alone.
-/
import Derived.Test.YtllbachngocmnaaGreatDoorP10
namespace Go.Proofs.YtllbachngocmnaaGreatDoor
open Go.RowKit
namespace Cm
open St (Vl encV)
open Nd Ty

theorem seq_len (iv ic:ByteArray→Int):∀ (ks:List Data),(∀ k∈ks,∀ b,(nodeP iv ic k b).length+1≤8*cnt k)→∀ b,(seqOf iv ic ks b).length+ks.length≤8*cnts ks
 | [],_,b=>by simp[seqOf,seqs,cnts]
 | k::ks,h,b=>by
  have h1:=h k (by simp) b;have h2:=seq_len iv ic ks (fun q hq=>h q (by simp[hq])) (b+(nodeP iv ic k b).length);have e:seqOf iv ic (k::ks) b=nodeP iv ic k b++seqOf iv ic ks (b+(nodeP iv ic k b).length):=rfl
  rw[e,List.length_append]
  simp only[cnts,List.length_cons];omega
theorem print_len (iv ic:ByteArray→Int):∀ (ks:List Data) (i:Nat),(∀ k∈ks,∀ b,(nodeP iv ic k b).length+1≤8*cnt k)→∀ b,(prints i ((ks.map (comp iv ic)).map (·.2)) b).length≤8*cnts ks
 | [],i,_,b=>by simp[prints,cnts]
 | k::ks,i,h,b=>by
  have h1:=h k (by simp) b;have h2:=print_len iv ic ks (i+1) (fun q hq=>h q (by simp[hq])) (b+(nodeP iv ic k b).length+1);have e:prints i (((k::ks).map (comp iv ic)).map (·.2)) b=nodeP iv ic k b++(33,((min i 1:Nat):Int),none')::prints (i+1) ((ks.map (comp iv ic)).map (·.2)) (b+(nodeP iv ic k b).length+1):=rfl
  rw[e,List.length_append,List.length_cons]
  simp only[cnts];omega
theorem node_len (iv ic:ByteArray→Int):∀ (m:Nat) (t:Data),cnt t≤m→∀ b,(nodeP iv ic t b).length+1≤8*cnt t
 | 0,t,h,b=>by rw[cnt_kids] at h;omega
 | m+1,t,h,b=>by
  have hc:=cnt_kids t;cases t <;> try (simp only[nodeP,comp,List.length_nil];omega)
  rename_i ks lab
  have hk:kidsOf (Data.slice ks lab)=ks:=rfl
  rw[hk] at hc
  have ih:∀ k∈ks,∀ b,(nodeP iv ic k b).length+1≤8*cnt k:=fun k hk b=>node_len iv ic m k (by have:=cnts_mem hk;omega) b;have ihk:∀ k∈ks,∀ b,((comp iv ic k).1 b).length+8≤8*cnt k:=fun k hk b=>by
   have c1:=cnts_mem hk;have c2:=cnt_kids k;cases k <;> try (simp only[comp,List.length_nil];omega)
   rename_i ks' lab'
   have hk':kidsOf (Data.slice ks' lab')=ks':=rfl
   rw[hk'] at c2
   have e:(comp iv ic (Data.slice ks' lab')).1=seqOf iv ic ks':=by rw[comp,comps_map];rfl
   rw[e]
   have:=seq_len iv ic ks' (fun q hq b=>node_len iv ic m q (by have:=cnts_mem hq;omega) b) b
   omega
  have e:nodeP iv ic (Data.slice ks lab)=opV iv ic (opOf (Data.slice ks lab)) (numOf (Data.slice ks lab)) (txtOf (Data.slice ks lab)) ks (ks.map (comp iv ic)):=by
   unfold nodeP
   rw[comp,comps_map]
  rw[e,hc]
  generalize opOf (Data.slice ks lab)=op;generalize numOf (Data.slice ks lab)=n;generalize txtOf (Data.slice ks lab)=s;have hseq:=seq_len iv ic ks ih b;have hseq':(seqs ((ks.map (comp iv ic)).map (·.2)) b).length+ks.length≤8*cnts ks:=hseq;unfold opV
  split
  ·omega
  split
  ·have h2:=print_len iv ic ks 0 ih b
   rw[List.length_append]
   split <;> simp only[List.length_cons,List.length_nil] <;> omega
  split
  ·split
   ·rename_i f0 f1 hfs
    rcases ks with _|⟨k0,_|⟨k1,_|⟨k2,ks⟩⟩⟩
    ·simp at hfs
    ·simp at hfs
    ·simp at hfs
     obtain⟨rfl,rfl⟩:=hfs
     have a0:=ih k0 (by simp) b;have a1:=ihk k1 (by simp) (b+((comp iv ic k0).2 b).length+1);simp only[nodeP] at a0;simp only[ifV,List.length_append,List.length_cons,cnts];omega
    ·simp at hfs
   ·rename_i f0 f1 f2 hfs
    rcases ks with _|⟨k0,_|⟨k1,_|⟨k2,_|⟨k3,ks⟩⟩⟩⟩
    ·simp at hfs
    ·simp at hfs
    ·simp at hfs
    ·simp at hfs
     obtain⟨rfl,rfl,rfl⟩:=hfs
     have a0:=ih k0 (by simp) b;have a1:=ihk k1 (by simp) (b+((comp iv ic k0).2 b).length+1);have a2:=ihk k2 (by simp) (b+((comp iv ic k0).2 b).length+1+((comp iv ic k1).1 (b+((comp iv ic k0).2 b).length+1)).length+1);simp only[nodeP] at a0;simp only[elseV,List.length_append,List.length_cons,cnts];omega
    ·simp at hfs
   ·simp only[List.length_nil];omega
  split
  ·split
   ·rename_i f0 f1 hfs
    rcases ks with _|⟨k0,_|⟨k1,_|⟨k2,ks⟩⟩⟩
    ·simp at hfs
    ·simp at hfs
    ·simp at hfs
     obtain⟨rfl,rfl⟩:=hfs
     have a0:=ih k0 (by simp) b;have a1:=ihk k1 (by simp) (b+((comp iv ic k0).2 b).length+1);simp only[nodeP] at a0;simp only[whileV,List.length_append,List.length_cons,List.length_nil,cnts];omega
    ·simp at hfs
   ·simp only[List.length_nil];omega
  split
  ·split
   ·rename_i f0 f1 hfs
    rcases ks with _|⟨k0,_|⟨k1,_|⟨k2,ks⟩⟩⟩
    ·simp at hfs
    ·simp at hfs
    ·simp at hfs
     obtain⟨rfl,rfl⟩:=hfs
     have a0:=ih k0 (by simp) b;have a1:=ih k1 (by simp) (b+((comp iv ic k0).2 b).length+1);simp only[nodeP] at a0 a1;simp only[andV,List.length_append,List.length_cons,List.length_nil,cnts];omega
    ·simp at hfs
   ·simp only[List.length_nil];omega
  split
  ·split
   ·rename_i f0 f1 hfs
    rcases ks with _|⟨k0,_|⟨k1,_|⟨k2,ks⟩⟩⟩
    ·simp at hfs
    ·simp at hfs
    ·simp at hfs
     obtain⟨rfl,rfl⟩:=hfs
     have a0:=ih k0 (by simp) b;have a1:=ih k1 (by simp) (b+((comp iv ic k0).2 b).length+3);simp only[nodeP] at a0 a1;simp only[orV,List.length_append,List.length_cons,List.length_nil,cnts];omega
    ·simp at hfs
   ·simp only[List.length_nil];omega
  split
  ·split
   ·rename_i k0 k1 f0 f1 hfs
    simp at hfs
    obtain⟨rfl,rfl⟩:=hfs
    have a0:=ihk k0 (by simp) b;have a1:=ih k1 (by simp) (b+((comp iv ic k0).1 b).length);simp only[nodeP] at a1;simp only[seqs,List.length_append,List.length_cons,List.length_nil,cnts];omega
   ·simp only[List.length_nil];omega
  split
  ·split
   ·rename_i k0 k1 f0 f1 hfs
    simp at hfs
    obtain⟨rfl,rfl⟩:=hfs
    have a0:=ih k0 (by simp) b;simp only[nodeP] at a0;simp only[List.length_append,List.length_cons,List.length_nil,cnts];omega
   ·simp only[List.length_nil];omega
  ·rw[List.length_append]
   simp only[List.length_cons,List.length_nil];omega

end Cm
namespace Sp
open St (Vl encV)
open Nd Ty Cm
open Pg (RdT)
open Oc (hold Blk)

def Ran (X:Fx)(L:List Vl)(w:World)(e:Ending)(w':World):Prop:=e=.returned (.tuple #[])∧Wk X L w'∧Ch X w w'
def EOk (X:Fx)(t:Data):Prop:=∀ (ls:List Vl) (w:World) (S:Nat→Prop) (a b c u:Value),Wk X ls w→NodeIs X.W t S [a,b,c,u]→(ls++nodeP X.iv X.ic t ls.length).length≤40000000 →
 Calls Tryz.prog 17 #[.pointer (some ⟨X.p,0,none⟩),.agg #[a,b,c,u]] w fun e w'=>Ran X (ls++nodeP X.iv X.ic t ls.length) w e w'
def StOk (X:Fx)(t:Data):Prop:=∀ (ls:List Vl) (w:World) (S:Nat→Prop) (a b c u:Value),Wk X ls w→NodeIs X.W t S [a,b,c,u]→(ls++nodeP X.iv X.ic t ls.length).length≤40000000 →
 Calls Tryz.prog 41 #[.pointer (some ⟨X.p,0,none⟩),.agg #[a,b,c,u]] w fun e w'=>Ran X (ls++nodeP X.iv X.ic t ls.length) w e w'
def BlOk (X:Fx)(t:Data):Prop:=∀ (ls:List Vl) (w:World) (S:Nat→Prop) (a b c u:Value),Wk X ls w→NodeIs X.W t S [a,b,c,u]→(ls++seqOf X.iv X.ic (kidsOf t) ls.length).length≤40000000 →
 Calls Tryz.prog 16 #[.pointer (some ⟨X.p,0,none⟩),.agg #[a,b,c,u]] w fun e w'=>Ran X (ls++seqOf X.iv X.ic (kidsOf t) ls.length) w e w'
theorem at_e {X:Fx}{w0:World}{bxs:List (Nat × TypeId × List Value)}{T:Nat→Prop}{L x:List Vl}{w:World}{t:Data}{a b c u:Value}(ok:EOk X t)(h:At X w0 bxs L w)(hN:NodeIs X.W t T [a,b,c,u])(hx:x=nodeP X.iv X.ic t L.length)(hb:(L++x).length≤40000000):
  Calls Tryz.prog 17 #[.pointer (some ⟨X.p,0,none⟩),.agg #[a,b,c,u]] w fun e w'=>e=.returned (.tuple #[])∧At X w0 bxs (L++x) w':=by
 subst hx;exact (ok L w T a b c u h.wk hN hb).mono fun e w' ⟨h1,h2,h3⟩=>⟨h1,h.next h2 h3⟩
theorem at_block {X:Fx}{w0:World}{bxs:List (Nat × TypeId × List Value)}{T:Nat→Prop}{L x:List Vl}{w:World}{t:Data}{a b c u:Value}(ok:BlOk X t)(h:At X w0 bxs L w)(hN:NodeIs X.W t T [a,b,c,u])(hx:x=seqOf X.iv X.ic (kidsOf t) L.length)(hb:(L++x).length≤40000000):
  Calls Tryz.prog 16 #[.pointer (some ⟨X.p,0,none⟩),.agg #[a,b,c,u]] w fun e w'=>e=.returned (.tuple #[])∧At X w0 bxs (L++x) w':=by
 subst hx;exact (ok L w T a b c u h.wk hN hb).mono fun e w' ⟨h1,h2,h3⟩=>⟨h1,h.next h2 h3⟩
theorem At.ends {X:Fx}{w0:World}{bxs:List (Nat × TypeId × List Value)}{L L':List Vl}{w':World}(h:At X w0 bxs L w')(hL:L=L'):Ran X L' w0 (.returned (.tuple #[])) w':=⟨rfl,hL ▸ h.wk,h.ch⟩
theorem hid_eq {α:Type}(x:α):∃ y,Hid (y=x):=⟨x,rfl⟩
theorem node_vals {W:World}{t:Data}{S:Nat→Prop}{a b c u:Value}(h:NodeIs W t S [a,b,c,u]):∃ ao cap,a=.int .i64 (opOf t)∧b=.int .i64 (numOf t)∧c=.string ⟨(txtOf t).toArray⟩∧u=.slice ao (kidsOf t).length cap:=by
 obtain⟨op,n,s,ks,rfl⟩:=node_node h
 obtain⟨ao,cap,xs,he,-⟩:=node_parts h
 simp at he
 obtain⟨rfl,rfl,rfl,rfl⟩:=he
 exact⟨ao,cap,rfl,rfl,rfl,rfl⟩

set_option maxHeartbeats 1000000 in
set_option maxRecDepth 100000 in
theorem sl14And {X:Fx}{op n:Int}{s:List UInt8}{k0 k1:Data}(hk0:EOk X k0)(hk1:EOk X k1){ls:List Vl}{w:World}{S:Nat→Prop}{a b c u:Value}(hW:Wk X ls w)(hN:NodeIs X.W (nd op n s [k0,k1]) S [a,b,c,u])(hB:(ls++andV (nodeP X.iv X.ic k0) (nodeP X.iv X.ic k1) ls.length).length≤40000000):
  Calls Tryz.prog 43 #[.pointer (some ⟨X.p,0,none⟩),.agg #[a,b,c,u]] w fun e w'=>Ran X (ls++andV (nodeP X.iv X.ic k0) (nodeP X.iv X.ic k1) ls.length) w e w':=by
 obtain⟨g,cap,x0,x1,x2,x3,y0,y1,y2,y3,S0,S1,T⟩:=kids2 hN
 have hv:=T.val;simp at hv
 obtain⟨rfl,rfl,rfl,rfl⟩:=hv
 obtain⟨ao0,cap0,rfl,rfl,rfl,rfl⟩:=node_vals T.k0
 obtain⟨ao1,cap1,rfl,rfl,rfl,rfl⟩:=node_vals T.k1
 obtain⟨-,hgl,-,c0,c1,c2,c3,d0,d1,d2,d3,i0,i1,t0,t1⟩:=T
 obtain⟨fa,hfa⟩:=hid_eq (nodeP X.iv X.ic k0 ls.length)
 obtain⟨fc,hfc⟩:=hid_eq (nodeP X.iv X.ic k1 (ls.length+fa.length+1))
 have HV:Hid (andV (nodeP X.iv X.ic k0) (nodeP X.iv X.ic k1) ls.length=fa++(31,((ls.length+fa.length+1+fc.length+2:Nat):Int),none')::(fc++[(28,0,none'),(30,((ls.length+fa.length+1+fc.length+3:Nat):Int),none'),(1,0,none')])):=by show _=_;simp only[andV,← hfa.out,← hfc.out]
 have HT:Hid (ls++andV (nodeP X.iv X.ic k0) (nodeP X.iv X.ic k1) ls.length=ls++(fa++(31,((ls.length+fa.length+1+fc.length+2:Nat):Int),none')::(fc++[(28,0,none'),(30,((ls.length+fa.length+1+fc.length+3:Nat):Int),none'),(1,0,none')]))):=by show _=_;simp only[HV.out]
 rw[HT.out] at hB ⊢
 have HB:Hid ((ls++(fa++(31,((ls.length+fa.length+1+fc.length+2:Nat):Int),none')::(fc++[(28,0,none'),(30,((ls.length+fa.length+1+fc.length+3:Nat):Int),none'),(1,0,none')]))).length≤40000000):=hB;clear HV HT hB;have HA:Hid (At X w [(nb w op n s g 2 cap)] ls (w.alloc (.cells #[.int .i64 op,.int .i64 n,.string ⟨s.toArray⟩,.slice (some ⟨g,0,none⟩) 2 cap] 51))):=(at_none hW).more _ _;have p0:=HA.out.box (b:=(nb w op n s g 2 cap)) (by simp) 3 rfl;have c0':=HA.out.cell c0;have c1':=HA.out.cell c1;have c2':=HA.out.cell c2;have c3':=HA.out.cell c3;have d0':=HA.out.cell d0;have d1':=HA.out.cell d1;have d2':=HA.out.cell d2;have d3':=HA.out.cell d3;clear hW hN
 go_enter Tryz.func43,Tryz.ntmps43
 go_wp2_with (go_at_call 17;refine hold ?_)
 refine Calls.mono (at_e (x:=fa) hk0 HA.out i0 (hfa.out) (by have h1:=HB.out;simp only[List.length_append,List.length_cons,List.length_nil] at h1 ⊢;omega)) ?_;clear p0 c0' c1' c2' c3' d0' d1' d2' d3';rintro e w1 ⟨rfl,hK⟩;have H1:Hid (At X w [(nb w op n s g 2 cap)] (ls++fa) w1):=hK;have p0:=H1.out.box (b:=(nb w op n s g 2 cap)) (by simp) 3 rfl;have c0':=H1.out.cell c0;have c1':=H1.out.cell c1;have c2':=H1.out.cell c2;have c3':=H1.out.cell c3;have d0':=H1.out.cell d0;have d1':=H1.out.cell d1;have d2':=H1.out.cell d2;have d3':=H1.out.cell d3;clear hK HA
 obtain⟨jn,hjn⟩:=hid_eq (ls++fa).length
 go_wp2_with (go_at_call 18;refine hold ?_)
 refine Calls.mono (at_put H1.out (by have h1:=HB.out;simp only[List.length_append,List.length_cons,List.length_nil] at h1 ⊢;omega) 31 0 none' hjn.out) ?_;clear p0 c0' c1' c2' c3' d0' d1' d2' d3';rintro e w2 ⟨rfl,hK⟩;have H2:Hid (At X w [(nb w op n s g 2 cap)] ((ls++fa)++[((31,0,none'):Vl)]) w2):=hK;have p0:=H2.out.box (b:=(nb w op n s g 2 cap)) (by simp) 3 rfl;have c0':=H2.out.cell c0;have c1':=H2.out.cell c1;have c2':=H2.out.cell c2;have c3':=H2.out.cell c3;have d0':=H2.out.cell d0;have d1':=H2.out.cell d1;have d2':=H2.out.cell d2;have d3':=H2.out.cell d3;clear hK H1
 go_wp2_with (go_at_call 17;refine hold ?_)
 refine Calls.mono (at_e (x:=fc) hk1 H2.out i1 (by rw[hfc.out];congr 1;simp;omega) (by have h1:=HB.out;simp only[List.length_append,List.length_cons,List.length_nil] at h1 ⊢;omega)) ?_;clear p0 c0' c1' c2' c3' d0' d1' d2' d3';rintro e w3 ⟨rfl,hK⟩;have H3:Hid (At X w [(nb w op n s g 2 cap)] (((ls++fa)++[((31,0,none'):Vl)])++fc) w3):=hK;have p0:=H3.out.box (b:=(nb w op n s g 2 cap)) (by simp) 3 rfl;have c0':=H3.out.cell c0;have c1':=H3.out.cell c1;have c2':=H3.out.cell c2;have c3':=H3.out.cell c3;have d0':=H3.out.cell d0;have d1':=H3.out.cell d1;have d2':=H3.out.cell d2;have d3':=H3.out.cell d3;clear hK H2
 obtain⟨jj3,hjj3⟩:=hid_eq (((ls++fa)++[((31,0,none'):Vl)])++fc).length
 go_wp2_with (go_at_call 18;refine hold ?_)
 refine Calls.mono (at_put H3.out (by have h1:=HB.out;simp only[List.length_append,List.length_cons,List.length_nil] at h1 ⊢;omega) 28 0 none' hjj3.out) ?_;clear p0 c0' c1' c2' c3' d0' d1' d2' d3';rintro e w4 ⟨rfl,hK⟩;have H4:Hid (At X w [(nb w op n s g 2 cap)] ((((ls++fa)++[((31,0,none'):Vl)])++fc)++[((28,0,none'):Vl)]) w4):=hK;have p0:=H4.out.box (b:=(nb w op n s g 2 cap)) (by simp) 3 rfl;have c0':=H4.out.cell c0;have c1':=H4.out.cell c1;have c2':=H4.out.cell c2;have c3':=H4.out.cell c3;have d0':=H4.out.cell d0;have d1':=H4.out.cell d1;have d2':=H4.out.cell d2;have d3':=H4.out.cell d3;clear hK H3
 obtain⟨je,hje⟩:=hid_eq ((((ls++fa)++[((31,0,none'):Vl)])++fc)++[((28,0,none'):Vl)]).length
 go_wp2_with (go_at_call 18;refine hold ?_)
 refine Calls.mono (at_put H4.out (by have h1:=HB.out;simp only[List.length_append,List.length_cons,List.length_nil] at h1 ⊢;omega) 30 0 none' hje.out) ?_;clear p0 c0' c1' c2' c3' d0' d1' d2' d3';rintro e w5 ⟨rfl,hK⟩;have H5:Hid (At X w [(nb w op n s g 2 cap)] (((((ls++fa)++[((31,0,none'):Vl)])++fc)++[((28,0,none'):Vl)])++[((30,0,none'):Vl)]) w5):=hK;have p0:=H5.out.box (b:=(nb w op n s g 2 cap)) (by simp) 3 rfl;have c0':=H5.out.cell c0;have c1':=H5.out.cell c1;have c2':=H5.out.cell c2;have c3':=H5.out.cell c3;have d0':=H5.out.cell d0;have d1':=H5.out.cell d1;have d2':=H5.out.cell d2;have d3':=H5.out.cell d3;clear hK H4
 obtain⟨N6,hN6⟩:=hid_eq (ls.length+fa.length+1+fc.length+2:Nat)
 obtain⟨g6,cap6,q2,q5,fz,hjN,hK⟩:=at_land H5.out (l1:=(ls++fa)) (c:=31) (n:=0) (s:=none') (l2:=(fc++[(28,0,none'),(30,0,none')])) (by simp) (hjn.out.trans (by simp)) (N:=N6) (by rw[hN6.out];simp;omega)
 have hjI:(jn:Int)<N6:=by omega
 have hNI:(N6:Int)≤40000000:=by have h1:=HB.out;have h2:=hN6.out;simp only[List.length_append,List.length_cons,List.length_nil] at h1;omega
 have HK:Hid _:=hK;clear hK hjN;go_wp2_with fail;go_region
 obtain⟨w6,hw6⟩:∃ w6,w6=(w5.setCell ⟨g6,jn*3+1,none⟩ (.int .i64 N6)).drew:=⟨_,rfl⟩
 rw[← hw6]
 have hK:At X w [(nb w op n s g 2 cap)] ((ls++fa)++(31,((ls.length+fa.length+1+fc.length+2:Nat):Int),none')::(fc++[(28,0,none'),(30,0,none')])) w6:=by rw[hw6,← hN6.out];exact HK.out
 clear hw6 HK q2 q5 fz hjI hNI;clear p0 c0' c1' c2' c3' d0' d1' d2' d3';have H6:Hid (At X w [(nb w op n s g 2 cap)] ((ls++fa)++(31,((ls.length+fa.length+1+fc.length+2:Nat):Int),none')::(fc++[(28,0,none'),(30,0,none')])) w6):=hK;have p0:=H6.out.box (b:=(nb w op n s g 2 cap)) (by simp) 3 rfl;have c0':=H6.out.cell c0;have c1':=H6.out.cell c1;have c2':=H6.out.cell c2;have c3':=H6.out.cell c3;have d0':=H6.out.cell d0;have d1':=H6.out.cell d1;have d2':=H6.out.cell d2;have d3':=H6.out.cell d3;clear hK H5
 obtain⟨jj6,hjj6⟩:=hid_eq ((ls++fa)++(31,((ls.length+fa.length+1+fc.length+2:Nat):Int),none')::(fc++[(28,0,none'),(30,0,none')])).length
 go_wp2_with (go_at_call 18;refine hold ?_)
 refine Calls.mono (at_put H6.out (by have h1:=HB.out;simp only[List.length_append,List.length_cons,List.length_nil] at h1 ⊢;omega) 1 0 none' hjj6.out) ?_;clear p0 c0' c1' c2' c3' d0' d1' d2' d3';rintro e w7 ⟨rfl,hK⟩;have H7:Hid (At X w [(nb w op n s g 2 cap)] (((ls++fa)++(31,((ls.length+fa.length+1+fc.length+2:Nat):Int),none')::(fc++[(28,0,none'),(30,0,none')]))++[((1,0,none'):Vl)]) w7):=hK;have p0:=H7.out.box (b:=(nb w op n s g 2 cap)) (by simp) 3 rfl;have c0':=H7.out.cell c0;have c1':=H7.out.cell c1;have c2':=H7.out.cell c2;have c3':=H7.out.cell c3;have d0':=H7.out.cell d0;have d1':=H7.out.cell d1;have d2':=H7.out.cell d2;have d3':=H7.out.cell d3;clear hK H6
 obtain⟨N8,hN8⟩:=hid_eq (ls.length+fa.length+1+fc.length+3:Nat)
 obtain⟨g8,cap8,q2,q5,fz,hjN,hK⟩:=at_land H7.out (l1:=(ls++fa++(31,((ls.length+fa.length+1+fc.length+2:Nat):Int),none')::(fc++[(28,0,none')]))) (c:=30) (n:=0) (s:=none') (l2:=[(1,0,none')]) (by simp) (hje.out.trans (by simp)) (N:=N8) (by rw[hN8.out];simp;omega)
 have hjI:(je:Int)<N8:=by omega
 have hNI:(N8:Int)≤40000000:=by have h1:=HB.out;have h2:=hN8.out;simp only[List.length_append,List.length_cons,List.length_nil] at h1;omega
 have HK:Hid _:=hK;clear hK hjN;go_wp2_with fail;go_region
 obtain⟨w8,hw8⟩:∃ w8,w8=(w7.setCell ⟨g8,je*3+1,none⟩ (.int .i64 N8)).drew:=⟨_,rfl⟩
 rw[← hw8]
 have hK:At X w [(nb w op n s g 2 cap)] ((ls++fa++(31,((ls.length+fa.length+1+fc.length+2:Nat):Int),none')::(fc++[(28,0,none')]))++(30,((ls.length+fa.length+1+fc.length+3:Nat):Int),none')::[(1,0,none')]) w8:=by rw[hw8,← hN8.out];exact HK.out
 clear hw8 HK q2 q5 fz hjI hNI;clear p0 c0' c1' c2' c3' d0' d1' d2' d3';have H8:Hid (At X w [(nb w op n s g 2 cap)] ((ls++fa++(31,((ls.length+fa.length+1+fc.length+2:Nat):Int),none')::(fc++[(28,0,none')]))++(30,((ls.length+fa.length+1+fc.length+3:Nat):Int),none')::[(1,0,none')]) w8):=hK;have p0:=H8.out.box (b:=(nb w op n s g 2 cap)) (by simp) 3 rfl;have c0':=H8.out.cell c0;have c1':=H8.out.cell c1;have c2':=H8.out.cell c2;have c3':=H8.out.cell c3;have d0':=H8.out.cell d0;have d1':=H8.out.cell d1;have d2':=H8.out.cell d2;have d3':=H8.out.cell d3;clear hK H7;clear p0 c0' c1' c2' c3' d0' d1' d2' d3';go_wp2_with fail
 first
  | (refine bodyPost_end (v:=.tuple #[]) ?_ rfl (H8.out.ends (by simp));simp[results,Tryz.results43])
  | (refine bodyPost_ret (v:=.tuple #[]) ?_ rfl (H8.out.ends (by simp));simp[results,Tryz.results43])

set_option maxHeartbeats 1000000 in
set_option maxRecDepth 100000 in
theorem sl14Or {X:Fx}{op n:Int}{s:List UInt8}{k0 k1:Data}(hk0:EOk X k0)(hk1:EOk X k1){ls:List Vl}{w:World}{S:Nat→Prop}{a b c u:Value}(hW:Wk X ls w)(hN:NodeIs X.W (nd op n s [k0,k1]) S [a,b,c,u])(hB:(ls++orV (nodeP X.iv X.ic k0) (nodeP X.iv X.ic k1) ls.length).length≤40000000):
  Calls Tryz.prog 44 #[.pointer (some ⟨X.p,0,none⟩),.agg #[a,b,c,u]] w fun e w'=>Ran X (ls++orV (nodeP X.iv X.ic k0) (nodeP X.iv X.ic k1) ls.length) w e w':=by
 obtain⟨g,cap,x0,x1,x2,x3,y0,y1,y2,y3,S0,S1,T⟩:=kids2 hN
 have hv:=T.val;simp at hv
 obtain⟨rfl,rfl,rfl,rfl⟩:=hv
 obtain⟨ao0,cap0,rfl,rfl,rfl,rfl⟩:=node_vals T.k0
 obtain⟨ao1,cap1,rfl,rfl,rfl,rfl⟩:=node_vals T.k1
 obtain⟨-,hgl,-,c0,c1,c2,c3,d0,d1,d2,d3,i0,i1,t0,t1⟩:=T
 obtain⟨fa,hfa⟩:=hid_eq (nodeP X.iv X.ic k0 ls.length)
 obtain⟨fc,hfc⟩:=hid_eq (nodeP X.iv X.ic k1 (ls.length+fa.length+3))
 have HV:Hid (orV (nodeP X.iv X.ic k0) (nodeP X.iv X.ic k1) ls.length=fa++(31,((ls.length+fa.length+3:Nat):Int),none')::(1,1000000,none')::(30,((ls.length+fa.length+3+fc.length+1:Nat):Int),none')::(fc++[(28,0,none')])):=by show _=_;simp only[orV,← hfa.out,← hfc.out]
 have HT:Hid (ls++orV (nodeP X.iv X.ic k0) (nodeP X.iv X.ic k1) ls.length=ls++(fa++(31,((ls.length+fa.length+3:Nat):Int),none')::(1,1000000,none')::(30,((ls.length+fa.length+3+fc.length+1:Nat):Int),none')::(fc++[(28,0,none')]))):=by show _=_;simp only[HV.out]
 rw[HT.out] at hB ⊢
 have HB:Hid ((ls++(fa++(31,((ls.length+fa.length+3:Nat):Int),none')::(1,1000000,none')::(30,((ls.length+fa.length+3+fc.length+1:Nat):Int),none')::(fc++[(28,0,none')]))).length≤40000000):=hB;clear HV HT hB;have HA:Hid (At X w [(nb w op n s g 2 cap)] ls (w.alloc (.cells #[.int .i64 op,.int .i64 n,.string ⟨s.toArray⟩,.slice (some ⟨g,0,none⟩) 2 cap] 51))):=(at_none hW).more _ _;have p0:=HA.out.box (b:=(nb w op n s g 2 cap)) (by simp) 3 rfl;have c0':=HA.out.cell c0;have c1':=HA.out.cell c1;have c2':=HA.out.cell c2;have c3':=HA.out.cell c3;have d0':=HA.out.cell d0;have d1':=HA.out.cell d1;have d2':=HA.out.cell d2;have d3':=HA.out.cell d3;clear hW hN
 go_enter Tryz.func44,Tryz.ntmps44
 go_wp2_with (go_at_call 17;refine hold ?_)
 refine Calls.mono (at_e (x:=fa) hk0 HA.out i0 (hfa.out) (by have h1:=HB.out;simp only[List.length_append,List.length_cons,List.length_nil] at h1 ⊢;omega)) ?_;clear p0 c0' c1' c2' c3' d0' d1' d2' d3';rintro e w1 ⟨rfl,hK⟩;have H1:Hid (At X w [(nb w op n s g 2 cap)] (ls++fa) w1):=hK;have p0:=H1.out.box (b:=(nb w op n s g 2 cap)) (by simp) 3 rfl;have c0':=H1.out.cell c0;have c1':=H1.out.cell c1;have c2':=H1.out.cell c2;have c3':=H1.out.cell c3;have d0':=H1.out.cell d0;have d1':=H1.out.cell d1;have d2':=H1.out.cell d2;have d3':=H1.out.cell d3;clear hK HA
 obtain⟨jn,hjn⟩:=hid_eq (ls++fa).length
 go_wp2_with (go_at_call 18;refine hold ?_)
 refine Calls.mono (at_put H1.out (by have h1:=HB.out;simp only[List.length_append,List.length_cons,List.length_nil] at h1 ⊢;omega) 31 0 none' hjn.out) ?_;clear p0 c0' c1' c2' c3' d0' d1' d2' d3';rintro e w2 ⟨rfl,hK⟩;have H2:Hid (At X w [(nb w op n s g 2 cap)] ((ls++fa)++[((31,0,none'):Vl)]) w2):=hK;have p0:=H2.out.box (b:=(nb w op n s g 2 cap)) (by simp) 3 rfl;have c0':=H2.out.cell c0;have c1':=H2.out.cell c1;have c2':=H2.out.cell c2;have c3':=H2.out.cell c3;have d0':=H2.out.cell d0;have d1':=H2.out.cell d1;have d2':=H2.out.cell d2;have d3':=H2.out.cell d3;clear hK H1
 obtain⟨jj2,hjj2⟩:=hid_eq ((ls++fa)++[((31,0,none'):Vl)]).length
 go_wp2_with (go_at_call 18;refine hold ?_)
 refine Calls.mono (at_put H2.out (by have h1:=HB.out;simp only[List.length_append,List.length_cons,List.length_nil] at h1 ⊢;omega) 1 1000000 none' hjj2.out) ?_;clear p0 c0' c1' c2' c3' d0' d1' d2' d3';rintro e w3 ⟨rfl,hK⟩;have H3:Hid (At X w [(nb w op n s g 2 cap)] (((ls++fa)++[((31,0,none'):Vl)])++[((1,1000000,none'):Vl)]) w3):=hK;have p0:=H3.out.box (b:=(nb w op n s g 2 cap)) (by simp) 3 rfl;have c0':=H3.out.cell c0;have c1':=H3.out.cell c1;have c2':=H3.out.cell c2;have c3':=H3.out.cell c3;have d0':=H3.out.cell d0;have d1':=H3.out.cell d1;have d2':=H3.out.cell d2;have d3':=H3.out.cell d3;clear hK H2
 obtain⟨je,hje⟩:=hid_eq (((ls++fa)++[((31,0,none'):Vl)])++[((1,1000000,none'):Vl)]).length
 go_wp2_with (go_at_call 18;refine hold ?_)
 refine Calls.mono (at_put H3.out (by have h1:=HB.out;simp only[List.length_append,List.length_cons,List.length_nil] at h1 ⊢;omega) 30 0 none' hje.out) ?_;clear p0 c0' c1' c2' c3' d0' d1' d2' d3';rintro e w4 ⟨rfl,hK⟩;have H4:Hid (At X w [(nb w op n s g 2 cap)] ((((ls++fa)++[((31,0,none'):Vl)])++[((1,1000000,none'):Vl)])++[((30,0,none'):Vl)]) w4):=hK;have p0:=H4.out.box (b:=(nb w op n s g 2 cap)) (by simp) 3 rfl;have c0':=H4.out.cell c0;have c1':=H4.out.cell c1;have c2':=H4.out.cell c2;have c3':=H4.out.cell c3;have d0':=H4.out.cell d0;have d1':=H4.out.cell d1;have d2':=H4.out.cell d2;have d3':=H4.out.cell d3;clear hK H3
 obtain⟨N5,hN5⟩:=hid_eq (ls.length+fa.length+3:Nat)
 obtain⟨g5,cap5,q2,q5,fz,hjN,hK⟩:=at_land H4.out (l1:=(ls++fa)) (c:=31) (n:=0) (s:=none') (l2:=[(1,1000000,none'),(30,0,none')]) (by simp) (hjn.out.trans (by simp)) (N:=N5) (by rw[hN5.out];simp;omega)
 have hjI:(jn:Int)<N5:=by omega
 have hNI:(N5:Int)≤40000000:=by have h1:=HB.out;have h2:=hN5.out;simp only[List.length_append,List.length_cons,List.length_nil] at h1;omega
 have HK:Hid _:=hK;clear hK hjN;go_wp2_with fail;go_region
 obtain⟨w5,hw5⟩:∃ w5,w5=(w4.setCell ⟨g5,jn*3+1,none⟩ (.int .i64 N5)).drew:=⟨_,rfl⟩
 rw[← hw5]
 have hK:At X w [(nb w op n s g 2 cap)] ((ls++fa)++(31,((ls.length+fa.length+3:Nat):Int),none')::[(1,1000000,none'),(30,0,none')]) w5:=by rw[hw5,← hN5.out];exact HK.out
 clear hw5 HK q2 q5 fz hjI hNI;clear p0 c0' c1' c2' c3' d0' d1' d2' d3';have H5:Hid (At X w [(nb w op n s g 2 cap)] ((ls++fa)++(31,((ls.length+fa.length+3:Nat):Int),none')::[(1,1000000,none'),(30,0,none')]) w5):=hK;have p0:=H5.out.box (b:=(nb w op n s g 2 cap)) (by simp) 3 rfl;have c0':=H5.out.cell c0;have c1':=H5.out.cell c1;have c2':=H5.out.cell c2;have c3':=H5.out.cell c3;have d0':=H5.out.cell d0;have d1':=H5.out.cell d1;have d2':=H5.out.cell d2;have d3':=H5.out.cell d3;clear hK H4
 go_wp2_with (go_at_call 17;refine hold ?_)
 refine Calls.mono (at_e (x:=fc) hk1 H5.out i1 (by rw[hfc.out];congr 1;simp;omega) (by have h1:=HB.out;simp only[List.length_append,List.length_cons,List.length_nil] at h1 ⊢;omega)) ?_;clear p0 c0' c1' c2' c3' d0' d1' d2' d3';rintro e w6 ⟨rfl,hK⟩;have H6:Hid (At X w [(nb w op n s g 2 cap)] (((ls++fa)++(31,((ls.length+fa.length+3:Nat):Int),none')::[(1,1000000,none'),(30,0,none')])++fc) w6):=hK;have p0:=H6.out.box (b:=(nb w op n s g 2 cap)) (by simp) 3 rfl;have c0':=H6.out.cell c0;have c1':=H6.out.cell c1;have c2':=H6.out.cell c2;have c3':=H6.out.cell c3;have d0':=H6.out.cell d0;have d1':=H6.out.cell d1;have d2':=H6.out.cell d2;have d3':=H6.out.cell d3;clear hK H5
 obtain⟨jj6,hjj6⟩:=hid_eq (((ls++fa)++(31,((ls.length+fa.length+3:Nat):Int),none')::[(1,1000000,none'),(30,0,none')])++fc).length
 go_wp2_with (go_at_call 18;refine hold ?_)
 refine Calls.mono (at_put H6.out (by have h1:=HB.out;simp only[List.length_append,List.length_cons,List.length_nil] at h1 ⊢;omega) 28 0 none' hjj6.out) ?_;clear p0 c0' c1' c2' c3' d0' d1' d2' d3';rintro e w7 ⟨rfl,hK⟩;have H7:Hid (At X w [(nb w op n s g 2 cap)] ((((ls++fa)++(31,((ls.length+fa.length+3:Nat):Int),none')::[(1,1000000,none'),(30,0,none')])++fc)++[((28,0,none'):Vl)]) w7):=hK;have p0:=H7.out.box (b:=(nb w op n s g 2 cap)) (by simp) 3 rfl;have c0':=H7.out.cell c0;have c1':=H7.out.cell c1;have c2':=H7.out.cell c2;have c3':=H7.out.cell c3;have d0':=H7.out.cell d0;have d1':=H7.out.cell d1;have d2':=H7.out.cell d2;have d3':=H7.out.cell d3;clear hK H6
 obtain⟨N8,hN8⟩:=hid_eq (ls.length+fa.length+3+fc.length+1:Nat)
 obtain⟨g8,cap8,q2,q5,fz,hjN,hK⟩:=at_land H7.out (l1:=(ls++fa++[(31,((ls.length+fa.length+3:Nat):Int),none'),(1,1000000,none')])) (c:=30) (n:=0) (s:=none') (l2:=(fc++[(28,0,none')])) (by simp) (hje.out.trans (by simp)) (N:=N8) (by rw[hN8.out];simp;omega)
 have hjI:(je:Int)<N8:=by omega
 have hNI:(N8:Int)≤40000000:=by have h1:=HB.out;have h2:=hN8.out;simp only[List.length_append,List.length_cons,List.length_nil] at h1;omega
 have HK:Hid _:=hK;clear hK hjN;go_wp2_with fail;go_region
 obtain⟨w8,hw8⟩:∃ w8,w8=(w7.setCell ⟨g8,je*3+1,none⟩ (.int .i64 N8)).drew:=⟨_,rfl⟩
 rw[← hw8]
 have hK:At X w [(nb w op n s g 2 cap)] ((ls++fa++[(31,((ls.length+fa.length+3:Nat):Int),none'),(1,1000000,none')])++(30,((ls.length+fa.length+3+fc.length+1:Nat):Int),none')::(fc++[(28,0,none')])) w8:=by rw[hw8,← hN8.out];exact HK.out
 clear hw8 HK q2 q5 fz hjI hNI;clear p0 c0' c1' c2' c3' d0' d1' d2' d3';have H8:Hid (At X w [(nb w op n s g 2 cap)] ((ls++fa++[(31,((ls.length+fa.length+3:Nat):Int),none'),(1,1000000,none')])++(30,((ls.length+fa.length+3+fc.length+1:Nat):Int),none')::(fc++[(28,0,none')])) w8):=hK;have p0:=H8.out.box (b:=(nb w op n s g 2 cap)) (by simp) 3 rfl;have c0':=H8.out.cell c0;have c1':=H8.out.cell c1;have c2':=H8.out.cell c2;have c3':=H8.out.cell c3;have d0':=H8.out.cell d0;have d1':=H8.out.cell d1;have d2':=H8.out.cell d2;have d3':=H8.out.cell d3;clear hK H7;clear p0 c0' c1' c2' c3' d0' d1' d2' d3';go_wp2_with fail
 first
  | (refine bodyPost_end (v:=.tuple #[]) ?_ rfl (H8.out.ends (by simp));simp[results,Tryz.results44])
  | (refine bodyPost_ret (v:=.tuple #[]) ?_ rfl (H8.out.ends (by simp));simp[results,Tryz.results44])

end Sp
end Go.Proofs.YtllbachngocmnaaGreatDoor
