/-
  What an op does behind its kids; a value is set: the specification.
-/
import Derived.Test.YtllbachngocmnaaGreatDoorP11
namespace Go.Proofs.YtllbachngocmnaaGreatDoor
open Go.RowKit
namespace Sp
open St (Vl encV)
open Nd Ty Cm
open Pg (RdT)
open Oc (hold Blk)

set_option maxHeartbeats 2000000 in
set_option maxRecDepth 100000 in
theorem sLastP {X:Fx}{ls:List Vl}{w:World}(h:Wk X ls w)(hl:ls.length<50000000)(op n:Int)(hop:op=1∨op=2∨op=3∨op=6∨op=7∨op=8∨op=9∨op=10∨op=11∨op=12∨op=13∨op=14∨op=15∨op=16∨op=17∨op=18∨op=19∨op=20∨op=22∨op=23∨op=28)(s:List UInt8)(K:Nat)(hK:K≤1048577)(ao:Option Addr)(cap:Nat):
  Calls Tryz.prog 45 #[.pointer (some ⟨X.p,0,none⟩),.agg #[.int .i64 op,.int .i64 n,.string ⟨s.toArray⟩,.slice ao K cap]] w fun e w'=>Ran X (ls++[wordV X.iv X.ic op n s K]) w e w':=by
 have hKI:(K:Int)≤1048577:=by omega
 have hba:∀ o,Below w.heap.size w (w.alloc o):=fun o=>(Below.refl _ _).alloc (Nat.le_refl _) _;have HC:Hid (∀ o,Ch X w (w.alloc o)):=fun o=>ch_below h.lt (hba o)
 obtain⟨j,hj⟩:=hid_eq ls.length
 have CALL:Hid (∀ o code nn ss,Calls Tryz.prog 18 #[.pointer (some ⟨X.p,0,none⟩),.int .i64 code,.int .i64 nn,.string ss] (w.alloc o) fun e w'=>e=.returned (.int .i64 j)∧Wk X (ls++[(code,nn,ss)]) w'∧Ch X (w.alloc o) w'):=fun o code nn ss=>by rw[hj.out];exact sPut (h.later (hba o)) hl code nn ss
 clear h hba hl;rcases hop with rfl|rfl|rfl|rfl|rfl|rfl|rfl|rfl|rfl|rfl|rfl|rfl|rfl|rfl|rfl|rfl|rfl|rfl|rfl|rfl|rfl
 all_goals
  go_enter Tryz.func45,Tryz.ntmps45
  go_wp2_with (go_at_call 18;refine hold ?_)
  refine Calls.mono (CALL.out _ _ _ _) ?_;rintro e w2 ⟨rfl,hW2,hC2⟩;have H2:Hid _:=hW2;have H3:Hid (Ch X w w2):=(HC.out _).trans hC2;clear hW2 hC2 HC CALL;go_wp2_with fail;refine bodyPost_end (v:=.tuple #[]) ?_ rfl ⟨rfl,?_,H3.out⟩
  ·simp[results,Tryz.results45]
  ·have h5:=H2.out;simpa [wordV,plainC,none',tx] using h5

set_option maxHeartbeats 1000000 in
set_option maxRecDepth 100000 in
theorem sLast4 {X:Fx}{ls:List Vl}{w:World}(h:Wk X ls w)(hl:ls.length<50000000)(n:Int)(s:List UInt8)(K:Nat)(ao:Option Addr)(cap:Nat):
  Calls Tryz.prog 45 #[.pointer (some ⟨X.p,0,none⟩),.agg #[.int .i64 4,.int .i64 n,.string ⟨s.toArray⟩,.slice ao K cap]] w fun e w'=>Ran X (ls++[wordV X.iv X.ic 4 n s K]) w e w':=by
 obtain⟨wa,hwa⟩:∃ wa,wa=(w.alloc (.cells #[.int .i64 4,.int .i64 n,.string ⟨s.toArray⟩,.slice ao K cap] 51)).drew:=⟨_,rfl⟩
 have hA:At X w [] ls wa:=by rw[hwa];exact (at_none h).later ((Below.refl _ _).alloc (Nat.le_refl _) _).drew
 have CN:Hid (Calls Tryz.prog 74 #[.slice X.va X.vars.length X.vc,.string ⟨s.toArray⟩] wa fun e w'=>e=.returned (.int .i64 (X.iv (tx s)))∧w'=wa):=sWhere (hA.wk.vs.below hA.wk.below) hA.wk.vn _
 obtain⟨j,hj⟩:=hid_eq ls.length
 have CALL:Hid (Calls Tryz.prog 18 #[.pointer (some ⟨X.p,0,none⟩),.int .i64 3,.int .i64 (X.iv (tx s)),.string ⟨#[]⟩] wa fun e w'=>e=.returned (.int .i64 j)∧At X w [] (ls++[(3,X.iv (tx s),none')]) w'):=at_put hA hl 3 _ none' hj.out;have q0:=hA.names.1
 rw[hwa] at q0
 clear h hl hA
 go_enter Tryz.func45,Tryz.ntmps45
 go_wp2_with fail
 go_region_with (first
  | (go_at_call 74;rw[← hwa];refine Calls.mono CN.out ?_;rintro e w1 ⟨rfl,rfl⟩)
  | (go_at_call 18;(try rw[← hwa]);refine Calls.mono CALL.out ?_;rintro e w2 ⟨rfl,h5⟩;have H5:=(show Hid (At X w [] (ls++[(3,X.iv (tx s),none')]) w2) from h5);clear h5))
 all_goals
  clear CALL CN;go_wp2_with fail;refine bodyPost_end (v:=.tuple #[]) ?_ rfl (H5.out.ends ?_)
  ·simp[results,Tryz.results45]
  ·simp[wordV]

set_option maxHeartbeats 1000000 in
set_option maxRecDepth 100000 in
theorem sLast5 {X:Fx}{ls:List Vl}{w:World}(h:Wk X ls w)(hl:ls.length<50000000)(n:Int)(s:List UInt8)(K:Nat)(ao:Option Addr)(cap:Nat):
  Calls Tryz.prog 45 #[.pointer (some ⟨X.p,0,none⟩),.agg #[.int .i64 5,.int .i64 n,.string ⟨s.toArray⟩,.slice ao K cap]] w fun e w'=>Ran X (ls++[wordV X.iv X.ic 5 n s K]) w e w':=by
 obtain⟨wa,hwa⟩:∃ wa,wa=(w.alloc (.cells #[.int .i64 5,.int .i64 n,.string ⟨s.toArray⟩,.slice ao K cap] 51)).drew:=⟨_,rfl⟩
 have hA:At X w [] ls wa:=by rw[hwa];exact (at_none h).later ((Below.refl _ _).alloc (Nat.le_refl _) _).drew
 have CN:Hid (Calls Tryz.prog 74 #[.slice X.ca X.cells.length X.cc,.string ⟨s.toArray⟩] wa fun e w'=>e=.returned (.int .i64 (X.ic (tx s)))∧w'=wa):=sWhere (hA.wk.cs.below hA.wk.below) hA.wk.cn _
 obtain⟨j,hj⟩:=hid_eq ls.length
 have CALL:Hid (Calls Tryz.prog 18 #[.pointer (some ⟨X.p,0,none⟩),.int .i64 6,.int .i64 (X.ic (tx s)),.string ⟨#[]⟩] wa fun e w'=>e=.returned (.int .i64 j)∧At X w [] (ls++[(6,X.ic (tx s),none')]) w'):=at_put hA hl 6 _ none' hj.out;have q0:=hA.names.2
 rw[hwa] at q0
 clear h hl hA
 go_enter Tryz.func45,Tryz.ntmps45
 go_wp2_with fail
 go_region_with (first
  | (go_at_call 74;rw[← hwa];refine Calls.mono CN.out ?_;rintro e w1 ⟨rfl,rfl⟩)
  | (go_at_call 18;(try rw[← hwa]);refine Calls.mono CALL.out ?_;rintro e w2 ⟨rfl,h5⟩;have H5:=(show Hid (At X w [] (ls++[(6,X.ic (tx s),none')]) w2) from h5);clear h5))
 all_goals
  clear CALL CN;go_wp2_with fail;refine bodyPost_end (v:=.tuple #[]) ?_ rfl (H5.out.ends ?_)
  ·simp[results,Tryz.results45]
  ·simp[wordV]

def EOp (op:Int):Prop:=(1≤op∧op≤20)∨op=22∨op=23∨op=28
theorem sLast {X:Fx}{ls:List Vl}{w:World}(h:Wk X ls w)(hl:ls.length<50000000)(op n:Int)(hop:EOp op)(s:List UInt8)(K:Nat)(hK:K≤1048577)(ao:Option Addr)(cap:Nat):
  Calls Tryz.prog 45 #[.pointer (some ⟨X.p,0,none⟩),.agg #[.int .i64 op,.int .i64 n,.string ⟨s.toArray⟩,.slice ao K cap]] w fun e w'=>Ran X (ls++[wordV X.iv X.ic op n s K]) w e w':=by
 unfold EOp at hop
 by_cases h4:op=4
 ·subst h4;exact sLast4 h hl n s K ao cap
 by_cases h5:op=5
 ·subst h5;exact sLast5 h hl n s K ao cap
 exact sLastP h hl op n (by omega) s K hK ao cap

end Sp
namespace Sp
open St (Vl encV)
open Nd Ty Cm
open Pg (RdT)
open Oc (hold Blk)

theorem at_st {X:Fx}{w0:World}{bxs:List (Nat × TypeId × List Value)}{T:Nat→Prop}{L x:List Vl}{w:World}{t:Data}{a b c u:Value}(ok:StOk X t)(h:At X w0 bxs L w)(hN:NodeIs X.W t T [a,b,c,u])(hx:x=nodeP X.iv X.ic t L.length)(hb:(L++x).length≤40000000):
  Calls Tryz.prog 41 #[.pointer (some ⟨X.p,0,none⟩),.agg #[a,b,c,u]] w fun e w'=>e=.returned (.tuple #[])∧At X w0 bxs (L++x) w':=by
 subst hx;exact (ok L w T a b c u h.wk hN hb).mono fun e w' ⟨h1,h2,h3⟩=>⟨h1,h.next h2 h3⟩

set_option maxHeartbeats 1000000 in
set_option maxRecDepth 100000 in
theorem sBlockN {X:Fx}{op n:Int}{s:List UInt8}{ks:List Data}  (hk:∀ t∈ks,StOk X t)(hn:ks.length≤1048577){ls:List Vl}{w:World}{S:Nat→Prop}{a b c u:Value}(hW:Wk X ls w)(hN:NodeIs X.W (nd op n s ks) S [a,b,c,u])(hB:(ls++seqOf X.iv X.ic ks ls.length).length≤40000000):
  Calls Tryz.prog 16 #[.pointer (some ⟨X.p,0,none⟩),.agg #[a,b,c,u]] w fun e w'=>Ran X (ls++seqOf X.iv X.ic ks ls.length) w e w':=by
 obtain⟨ao,cap,xs,he,hrow,-,hkids⟩:=node_parts hN
 simp at he
 obtain⟨rfl,rfl,rfl,rfl⟩:=he
 have bn:(ks.length:Int)≤1048577:=by omega
 have HROW:Hid (X.W.ownsRow 0 51 4 (.slice ao ks.length cap) ks.length xs):=hrow;have HK:Hid (∀ t∈ks,StOk X t):=hk;have HB:Hid ((ls++seqOf X.iv X.ic ks ls.length).length≤40000000):=hB;have HN0:Hid (∃ Sq,NodesIs X.W ks Sq xs):=⟨_,hkids⟩;have HA0:Hid (At X w [(w.heap.size,51,[.int .i64 op,.int .i64 n,.string ⟨s.toArray⟩,.slice ao ks.length cap])] ls (w.alloc (.cells #[.int .i64 op,.int .i64 n,.string ⟨s.toArray⟩,.slice ao ks.length cap] 51))):=(at_none hW).more _ _
 obtain⟨W0,hW0⟩:∃ W0,W0=w.alloc (.cells #[.int .i64 op,.int .i64 n,.string ⟨s.toArray⟩,.slice ao ks.length cap] 51):=⟨_,rfl⟩
 clear hrow hk hB hkids hW hN
 go_enter Tryz.func16,Tryz.ntmps16
 go_wp2_with fail
 rw[← hW0] at HA0 ⊢
 clear hW0
 go_loopw [4] (fun i wr=>∃ k:Nat,k≤ks.length∧i=.int .i64 k∧Hid ((∃ Sq,NodesIs X.W (ks.drop k) Sq (xs.drop (k*4)))∧At X w [(w.heap.size,51,[.int .i64 op,.int .i64 n,.string ⟨s.toArray⟩,.slice ao ks.length cap])] (ls++seqOf X.iv X.ic (ks.take k) ls.length) wr)) (fun i _=>ks.length - (intOf i).toNat)
 case atStart=>exact⟨0,Nat.zero_le _,rfl,by simpa using HN0.out,by have h1:=HA0.out;simpa [seqOf,seqs] using h1⟩
 case round =>
  clear HN0 HA0
  obtain⟨k,hkn,rfl,HH⟩:=hrel
  have p3:=HH.out.2.box (b:=(w.heap.size,51,[.int .i64 op,.int .i64 n,.string ⟨s.toArray⟩,.slice ao ks.length cap])) (by simp) 3 rfl
  by_cases hkl:k<ks.length
  ·obtain⟨⟨Sq,h1⟩,h5⟩:=HH.out
   obtain⟨T1,T2,a,b,c,u,i1,i2,i3,i4,e0,e1,e2,e3⟩:=drop_node hkl h1
   obtain⟨g,rfl,hg,hc⟩:=row_cells HROW.out hkl
   have c0:=h5.cell (hc _ _ e0);have c1:=h5.cell (hc _ _ e1);have c2:=h5.cell (hc _ _ e2);have c3:=h5.cell (hc _ _ e3);have bk:(k:Int)<ks.length:=by omega
   obtain⟨ao',cap',rfl,rfl,rfl,rfl⟩:=node_vals i1
   obtain⟨fx,hfx⟩:=hid_eq (nodeP X.iv X.ic ks[k] (ls++seqOf X.iv X.ic (ks.take k) ls.length).length)
   have HS:Hid ((ls++seqOf X.iv X.ic (ks.take k) ls.length)++fx=ls++seqOf X.iv X.ic (ks.take (k+1)) ls.length):=by
    show _=_
    rw[seqOf_take X.iv X.ic (List.getElem?_eq_getElem hkl) ls.length,hfx.out,List.length_append,List.append_assoc]
   have CALL:Hid (Calls Tryz.prog 41 #[.pointer (some ⟨X.p,0,none⟩),.agg #[.int .i64 (opOf ks[k]),.int .i64 (numOf ks[k]),.string ⟨(txtOf ks[k]).toArray⟩,.slice ao' (kidsOf ks[k]).length cap']] wr fun e w'=>e=.returned (.tuple #[])∧At X w [(w.heap.size,51,[.int .i64 op,.int .i64 n,.string ⟨s.toArray⟩,.slice (some ⟨g,0,none⟩) ks.length cap])] (ls++seqOf X.iv X.ic (ks.take (k+1)) ls.length) w'):=by
    rw[← HS.out]
    refine at_st (HK.out ks[k] (List.getElem_mem hkl)) h5 i1 hfx.out ?_
    rw[HS.out,List.length_append]
    have h1:=HB.out;have h2:=seqOf_len X.iv X.ic ks (k+1) ls.length;simp only[List.length_append] at h1;omega
   have HI:Hid (∃ Sq,NodesIs X.W (ks.drop (k+1)) Sq (xs.drop ((k+1)*4))):=⟨T2,i2⟩;clear HH h1 h5 i1 i2 i3 i4 hc e0 e1 e2 e3 hfx HS
   go_wp2_with (go_at_call 41;refine hold ?_)
   refine Calls.mono CALL.out ?_;clear c0 c1 c2 c3 p3;rintro e w2 ⟨rfl,hK⟩;have HR:Hid ((∃ Sq,NodesIs X.W (ks.drop (k+1)) Sq (xs.drop ((k+1)*4)))∧At X w [(w.heap.size,51,[.int .i64 op,.int .i64 n,.string ⟨s.toArray⟩,.slice (some ⟨g,0,none⟩) ks.length cap])] (ls++seqOf X.iv X.ic (ks.take (k+1)) ls.length) w2):=⟨HI.out,hK⟩;clear hK HI CALL;go_wp2_with fail;go_roundw
   case rel=>exact⟨k+1,hkl,by go_num,HR⟩
   case measure=>simp[intOf];omega
  ·obtain rfl:k=ks.length:=by omega
   obtain⟨-,h5⟩:=HH.out
   rw[List.take_length] at h5
   have H5:Hid (At X w [(w.heap.size,51,[.int .i64 op,.int .i64 n,.string ⟨s.toArray⟩,.slice ao ks.length cap])] (ls++seqOf X.iv X.ic ks ls.length) wr):=h5;clear h5 HH;go_wp2_with fail;refine bodyPost_end (v:=.tuple #[]) ?_ rfl (H5.out.ends rfl);simp[results,Tryz.results16]

theorem sBlock {X:Fx}{t:Data}(hk:∀ q∈kidsOf t,StOk X q)(hn:(kidsOf t).length≤1048577):BlOk X t:=by
 intro ls w S a b c u hW hN hB
 obtain⟨op,n,s,ks,rfl⟩:=node_node hN
 exact sBlockN hk hn hW hN hB

set_option maxHeartbeats 1000000 in
set_option maxRecDepth 100000 in
theorem sPlain {X:Fx}{op n:Int}{s:List UInt8}{ks:List Data}(hop:EOp op)(hk:∀ t∈ks,EOk X t)(hn:ks.length≤1048577){ls:List Vl}{w:World}{S:Nat→Prop}{a b c u:Value}(hW:Wk X ls w)(hN:NodeIs X.W (nd op n s ks) S [a,b,c,u])(hB:(ls++(seqOf X.iv X.ic ks ls.length++[wordV X.iv X.ic op n s ks.length])).length≤40000000):
  Calls Tryz.prog 17 #[.pointer (some ⟨X.p,0,none⟩),.agg #[a,b,c,u]] w fun e w'=>Ran X (ls++(seqOf X.iv X.ic ks ls.length++[wordV X.iv X.ic op n s ks.length])) w e w':=by
 obtain⟨ao,cap,xs,he,hrow,-,hkids⟩:=node_parts hN
 simp at he
 obtain⟨rfl,rfl,rfl,rfl⟩:=he
 have bn:(ks.length:Int)≤1048577:=by omega
 have HROW:Hid (X.W.ownsRow 0 51 4 (.slice ao ks.length cap) ks.length xs):=hrow;have HK:Hid (∀ t∈ks,EOk X t):=hk;have HB:Hid ((ls++(seqOf X.iv X.ic ks ls.length++[wordV X.iv X.ic op n s ks.length])).length≤40000000):=hB;have HN0:Hid (∃ Sq,NodesIs X.W ks Sq xs):=⟨_,hkids⟩;have HA0:Hid (At X w [(w.heap.size,51,[.int .i64 op,.int .i64 n,.string ⟨s.toArray⟩,.slice ao ks.length cap])] ls (w.alloc (.cells #[.int .i64 op,.int .i64 n,.string ⟨s.toArray⟩,.slice ao ks.length cap] 51))):=(at_none hW).more _ _
 obtain⟨W0,hW0⟩:∃ W0,W0=w.alloc (.cells #[.int .i64 op,.int .i64 n,.string ⟨s.toArray⟩,.slice ao ks.length cap] 51):=⟨_,rfl⟩
 have hop':=hop;unfold EOp at hop';have n5:¬ op=24:=by omega
 have n6:¬ op=25:=by omega
 have n7:¬ op=26:=by omega
 have n8:¬ op=27:=by omega
 have n9:¬ op=21:=by omega
 have m5:(op==24)=false:=beq_eq_false_iff_ne.2 n5;have m6:(op==25)=false:=beq_eq_false_iff_ne.2 n6;have m7:(op==26)=false:=beq_eq_false_iff_ne.2 n7;have m8:(op==27)=false:=beq_eq_false_iff_ne.2 n8;have m9:(op==21)=false:=beq_eq_false_iff_ne.2 n9;clear hrow hk hB hkids hW hN hop' n5 n6 n7 n8 n9
 go_enter Tryz.func17,Tryz.ntmps17
 go_wp2_with fail
 rw[← hW0] at HA0 ⊢
 clear hW0
 go_loopw [4] (fun i wr=>∃ k:Nat,k≤ks.length∧i=.int .i64 k∧Hid ((∃ Sq,NodesIs X.W (ks.drop k) Sq (xs.drop (k*4)))∧At X w [(w.heap.size,51,[.int .i64 op,.int .i64 n,.string ⟨s.toArray⟩,.slice ao ks.length cap])] (ls++seqOf X.iv X.ic (ks.take k) ls.length) wr)) (fun i _=>ks.length - (intOf i).toNat)
 case atStart=>exact⟨0,Nat.zero_le _,rfl,by simpa using HN0.out,by have h1:=HA0.out;simpa [seqOf,seqs] using h1⟩
 case round =>
  clear HN0 HA0
  obtain⟨k,hkn,rfl,HH⟩:=hrel
  have p3:=HH.out.2.box (b:=(w.heap.size,51,[.int .i64 op,.int .i64 n,.string ⟨s.toArray⟩,.slice ao ks.length cap])) (by simp) 3 rfl
  by_cases hkl:k<ks.length
  ·obtain⟨⟨Sq,h1⟩,h5⟩:=HH.out
   obtain⟨T1,T2,a,b,c,u,i1,i2,i3,i4,e0,e1,e2,e3⟩:=drop_node hkl h1
   obtain⟨g,rfl,hg,hc⟩:=row_cells HROW.out hkl
   have c0:=h5.cell (hc _ _ e0);have c1:=h5.cell (hc _ _ e1);have c2:=h5.cell (hc _ _ e2);have c3:=h5.cell (hc _ _ e3);have bk:(k:Int)<ks.length:=by omega
   obtain⟨ao',cap',rfl,rfl,rfl,rfl⟩:=node_vals i1
   obtain⟨fx,hfx⟩:=hid_eq (nodeP X.iv X.ic ks[k] (ls++seqOf X.iv X.ic (ks.take k) ls.length).length)
   have HS:Hid ((ls++seqOf X.iv X.ic (ks.take k) ls.length)++fx=ls++seqOf X.iv X.ic (ks.take (k+1)) ls.length):=by
    show _=_
    rw[seqOf_take X.iv X.ic (List.getElem?_eq_getElem hkl) ls.length,hfx.out,List.length_append,List.append_assoc]
   have CALL:Hid (Calls Tryz.prog 17 #[.pointer (some ⟨X.p,0,none⟩),.agg #[.int .i64 (opOf ks[k]),.int .i64 (numOf ks[k]),.string ⟨(txtOf ks[k]).toArray⟩,.slice ao' (kidsOf ks[k]).length cap']] wr fun e w'=>e=.returned (.tuple #[])∧At X w [(w.heap.size,51,[.int .i64 op,.int .i64 n,.string ⟨s.toArray⟩,.slice (some ⟨g,0,none⟩) ks.length cap])] (ls++seqOf X.iv X.ic (ks.take (k+1)) ls.length) w'):=by
    rw[← HS.out]
    refine at_e (HK.out ks[k] (List.getElem_mem hkl)) h5 i1 hfx.out ?_
    rw[HS.out,List.length_append]
    have h1:=HB.out;have h2:=seqOf_len X.iv X.ic ks (k+1) ls.length;simp only[List.length_append] at h1;omega
   have HI:Hid (∃ Sq,NodesIs X.W (ks.drop (k+1)) Sq (xs.drop ((k+1)*4))):=⟨T2,i2⟩;clear HH h1 h5 i1 i2 i3 i4 hc e0 e1 e2 e3 hfx HS
   go_wp2_with (go_at_call 17;refine hold ?_)
   refine Calls.mono CALL.out ?_;clear c0 c1 c2 c3 p3;rintro e w2 ⟨rfl,hK⟩;have HR:Hid ((∃ Sq,NodesIs X.W (ks.drop (k+1)) Sq (xs.drop ((k+1)*4)))∧At X w [(w.heap.size,51,[.int .i64 op,.int .i64 n,.string ⟨s.toArray⟩,.slice (some ⟨g,0,none⟩) ks.length cap])] (ls++seqOf X.iv X.ic (ks.take (k+1)) ls.length) w2):=⟨HI.out,hK⟩;clear hK HI CALL;go_wp2_with fail;go_roundw
   case rel=>exact⟨k+1,hkl,by go_num,HR⟩
   case measure=>simp[intOf];omega
  ·obtain rfl:k=ks.length:=by omega
   obtain⟨-,h5⟩:=HH.out
   rw[List.take_length] at h5
   have p0:=h5.box (b:=(w.heap.size,51,[.int .i64 op,.int .i64 n,.string ⟨s.toArray⟩,.slice ao ks.length cap])) (by simp) 0 rfl;have p1:=h5.box (b:=(w.heap.size,51,[.int .i64 op,.int .i64 n,.string ⟨s.toArray⟩,.slice ao ks.length cap])) (by simp) 1 rfl;have p2:=h5.box (b:=(w.heap.size,51,[.int .i64 op,.int .i64 n,.string ⟨s.toArray⟩,.slice ao ks.length cap])) (by simp) 2 rfl;have CW:Hid (Calls Tryz.prog 45 #[.pointer (some ⟨X.p,0,none⟩),.agg #[.int .i64 op,.int .i64 n,.string ⟨s.toArray⟩,.slice ao ks.length cap]] wr fun e w'=>e=.returned (.tuple #[])∧At X w [] (ls++seqOf X.iv X.ic ks ls.length++[wordV X.iv X.ic op n s ks.length]) w'):=by
    have h1:=HB.out;simp only[List.length_append,List.length_cons,List.length_nil] at h1;refine (sLast h5.wk (by simp only[List.length_append];omega) op n hop s ks.length hn ao cap).mono ?_;rintro e w' ⟨rfl,k1,k2⟩
    exact⟨rfl,⟨k1,fun b hb=>by simp at hb,h5.ch.trans k2⟩⟩
   clear h5 HH
   go_wp2_with (go_at_call 45;refine hold ?_)
   refine Calls.mono CW.out ?_;clear p0 p1 p2 p3;rintro e w2 ⟨rfl,hK⟩;have H2:Hid (At X w [] (ls++seqOf X.iv X.ic ks ls.length++[wordV X.iv X.ic op n s ks.length]) w2):=hK;clear hK CW;go_wp2_with fail;refine bodyPost_end (v:=.tuple #[]) ?_ rfl (H2.out.ends (by simp));simp[results,Tryz.results17]

end Sp
namespace Sp
open St (Vl encV)
open Nd Ty Cm
open Pg (RdT)
open Oc (hold Blk)

theorem sBit (b:Bool)(w:World):Calls Tryz.prog 75 #[.bool b] w fun e w'=>e=.returned (.int .i64 (if b then 1 else 0))∧w'=w:=by
 cases b
 ·go_enter Tryz.func75,Tryz.ntmps75
  go_wp2_with fail;go_ret
  exact⟨rfl,rfl⟩
 ·go_enter Tryz.func75,Tryz.ntmps75
  go_wp2_with fail;go_ret
  exact⟨rfl,rfl⟩

set_option maxHeartbeats 1000000 in
set_option maxRecDepth 100000 in
theorem sPrint {X:Fx}{n:Int}{s:List UInt8}{ks:List Data}(hk:∀ t∈ks,EOk X t)(hn:ks.length≤1048577){ls:List Vl}{w:World}{S:Nat→Prop}{a b c u:Value}(hW:Wk X ls w)(hN:NodeIs X.W (nd 30 n s ks) S [a,b,c,u])(hB:(ls++((if ks.isEmpty then [(1,0,none'),(9,0,none'),(33,0,none')] else printOf X.iv X.ic ks ls.length)++[(34,0,none')])).length≤40000000):
  Calls Tryz.prog 71 #[.pointer (some ⟨X.p,0,none⟩),.agg #[a,b,c,u]] w fun e w'=>Ran X (ls++((if ks.isEmpty then [(1,0,none'),(9,0,none'),(33,0,none')] else printOf X.iv X.ic ks ls.length)++[(34,0,none')])) w e w':=by
 obtain⟨ao,cap,xs,he,hrow,-,hkids⟩:=node_parts hN
 simp at he
 obtain⟨rfl,rfl,rfl,rfl⟩:=he
 have HA0:Hid (At X w [(w.heap.size,51,[.int .i64 30,.int .i64 n,.string ⟨s.toArray⟩,.slice ao ks.length cap])] ls (w.alloc (.cells #[.int .i64 30,.int .i64 n,.string ⟨s.toArray⟩,.slice ao ks.length cap] 51))):=(at_none hW).more _ _
 by_cases ht:ks=[]
 ·subst ht;have HB:Hid ((ls++[(1,0,none')]++[(9,0,none')]++[(33,0,none')]++[((34,0,none'):Vl)]).length≤40000000):=by
   show _≤_;simp at hB ⊢;omega
  have HT:Hid (ls++[(1,0,none')]++[(9,0,none')]++[(33,0,none')]++[((34,0,none'):Vl)]=ls++((if ([]:List Data).isEmpty then [(1,0,none'),(9,0,none'),(33,0,none')] else printOf X.iv X.ic [] ls.length)++[(34,0,none')])):=by show _=_;simp
  rw[← HT.out]
  clear HT hB hW hN hrow hkids hk
  go_enter Tryz.func71,Tryz.ntmps71
  obtain⟨jj1,hjj1⟩:=hid_eq (ls).length
  go_wp2_with (go_at_call 18;refine hold ?_)
  refine Calls.mono (at_put HA0.out (by have h1:=HB.out;simp only[List.length_append,List.length_cons,List.length_nil] at h1 ⊢;omega) 1 0 none' hjj1.out) ?_;rintro e v1 ⟨rfl,hK⟩;have J1:Hid (At X w [(w.heap.size,51,[.int .i64 30,.int .i64 n,.string ⟨s.toArray⟩,.slice ao ([]:List Data).length cap])] (ls++[((1,0,none'):Vl)]) v1):=hK;have p3:=J1.out.box (b:=(w.heap.size,51,[.int .i64 30,.int .i64 n,.string ⟨s.toArray⟩,.slice ao ([]:List Data).length cap])) (by simp) 3 rfl;clear hK HA0;clear p3
  obtain⟨jj2,hjj2⟩:=hid_eq (ls++[((1,0,none'):Vl)]).length
  go_wp2_with (go_at_call 18;refine hold ?_)
  refine Calls.mono (at_put J1.out (by have h1:=HB.out;simp only[List.length_append,List.length_cons,List.length_nil] at h1 ⊢;omega) 9 0 none' hjj2.out) ?_;rintro e v2 ⟨rfl,hK⟩;have J2:Hid (At X w [(w.heap.size,51,[.int .i64 30,.int .i64 n,.string ⟨s.toArray⟩,.slice ao ([]:List Data).length cap])] (ls++[((1,0,none'):Vl)]++[((9,0,none'):Vl)]) v2):=hK;have p3:=J2.out.box (b:=(w.heap.size,51,[.int .i64 30,.int .i64 n,.string ⟨s.toArray⟩,.slice ao ([]:List Data).length cap])) (by simp) 3 rfl;clear hK J1;clear p3
  obtain⟨jj3,hjj3⟩:=hid_eq (ls++[((1,0,none'):Vl)]++[((9,0,none'):Vl)]).length
  go_wp2_with (go_at_call 18;refine hold ?_)
  refine Calls.mono (at_put J2.out (by have h1:=HB.out;simp only[List.length_append,List.length_cons,List.length_nil] at h1 ⊢;omega) 33 0 none' hjj3.out) ?_;rintro e v3 ⟨rfl,hK⟩;have J3:Hid (At X w [(w.heap.size,51,[.int .i64 30,.int .i64 n,.string ⟨s.toArray⟩,.slice ao ([]:List Data).length cap])] (ls++[((1,0,none'):Vl)]++[((9,0,none'):Vl)]++[((33,0,none'):Vl)]) v3):=hK;have p3:=J3.out.box (b:=(w.heap.size,51,[.int .i64 30,.int .i64 n,.string ⟨s.toArray⟩,.slice ao ([]:List Data).length cap])) (by simp) 3 rfl;clear hK J2
  obtain⟨W1,hW1⟩:∃ W1,W1=v3:=⟨_,rfl⟩
  go_wp2_with fail
  go_loopw [4] (fun i wr=>i=.int .i64 0∧wr=v3) (fun _ _=>0)
  case atStart=>exact⟨rfl,rfl⟩
  case round =>
   obtain⟨rfl,rfl⟩:=hrel
   simp only[List.length_nil] at p3
   obtain⟨jj4,hjj4⟩:=hid_eq (ls++[((1,0,none'):Vl)]++[((9,0,none'):Vl)]++[((33,0,none'):Vl)]).length
   go_wp2_with (go_at_call 18;refine hold ?_)
   refine Calls.mono (at_put J3.out (by have h1:=HB.out;simp only[List.length_append,List.length_cons,List.length_nil] at h1 ⊢;omega) 34 0 none' hjj4.out) ?_;rintro e v4 ⟨rfl,hK⟩;have J4:Hid (At X w [(w.heap.size,51,[.int .i64 30,.int .i64 n,.string ⟨s.toArray⟩,.slice ao ([]:List Data).length cap])] (ls++[((1,0,none'):Vl)]++[((9,0,none'):Vl)]++[((33,0,none'):Vl)]++[((34,0,none'):Vl)]) v4):=hK;clear hK J3 p3;go_wp2_with fail;refine bodyPost_end (v:=.tuple #[]) ?_ rfl (J4.out.ends rfl);simp[results,Tryz.results71]
 ·have hpos:0<ks.length:=List.length_pos_iff.2 ht;have hposI:(0:Int)<ks.length:=by omega
  have hne:¬ (ks.length:Int)=0:=by omega
  have hneb:((ks.length:Int)==0)=false:=beq_eq_false_iff_ne.2 hne;have hemp:ks.isEmpty=false:=by cases ks;exact absurd rfl ht;rfl
  have HT:Hid (ls++printOf X.iv X.ic ks ls.length++[((34,0,none'):Vl)]=ls++((if ks.isEmpty then [(1,0,none'),(9,0,none'),(33,0,none')] else printOf X.iv X.ic ks ls.length)++[(34,0,none')])):=by show _=_;rw[hemp];simp
  rw[← HT.out] at hB ⊢
  have HB:Hid ((ls++printOf X.iv X.ic ks ls.length++[((34,0,none'):Vl)]).length≤40000000):=hB;have bn:(ks.length:Int)≤1048577:=by omega
  have HROW:Hid (X.W.ownsRow 0 51 4 (.slice ao ks.length cap) ks.length xs):=hrow;have HK:Hid (∀ t∈ks,EOk X t):=hk;have HN0:Hid (∃ Sq,NodesIs X.W ks Sq xs):=⟨_,hkids⟩
  obtain⟨W0,hW0⟩:∃ W0,W0=w.alloc (.cells #[.int .i64 30,.int .i64 n,.string ⟨s.toArray⟩,.slice ao ks.length cap] 51):=⟨_,rfl⟩
  clear HT hB hW hN hrow hkids hk hemp ht
  go_enter Tryz.func71,Tryz.ntmps71
  go_wp2_with fail
  rw[← hW0] at HA0 ⊢
  clear hW0
  go_loopw [4] (fun i wr=>∃ k:Nat,k≤ks.length∧i=.int .i64 k∧Hid ((∃ Sq,NodesIs X.W (ks.drop k) Sq (xs.drop (k*4)))∧At X w [(w.heap.size,51,[.int .i64 30,.int .i64 n,.string ⟨s.toArray⟩,.slice ao ks.length cap])] (ls++printOf X.iv X.ic (ks.take k) ls.length) wr)) (fun i _=>ks.length - (intOf i).toNat)
  case atStart=>exact⟨0,Nat.zero_le _,rfl,by simpa using HN0.out,by have h1:=HA0.out;simpa [printOf,prints] using h1⟩
  case round =>
   clear HN0 HA0
   obtain⟨k,hkn,rfl,HH⟩:=hrel
   have p3:=HH.out.2.box (b:=(w.heap.size,51,[.int .i64 30,.int .i64 n,.string ⟨s.toArray⟩,.slice ao ks.length cap])) (by simp) 3 rfl
   by_cases hkl:k<ks.length
   ·obtain⟨⟨Sq,h1⟩,h5⟩:=HH.out
    obtain⟨T1,T2,a,b,c,u,i1,i2,i3,i4,e0,e1,e2,e3⟩:=drop_node hkl h1
    obtain⟨g,rfl,hg,hc⟩:=row_cells HROW.out hkl
    have c0:=h5.cell (hc _ _ e0);have c1:=h5.cell (hc _ _ e1);have c2:=h5.cell (hc _ _ e2);have c3:=h5.cell (hc _ _ e3);have bk:(k:Int)<ks.length:=by omega
    obtain⟨ao',cap',rfl,rfl,rfl,rfl⟩:=node_vals i1
    obtain⟨fx,hfx⟩:=hid_eq (nodeP X.iv X.ic ks[k] (ls++printOf X.iv X.ic (ks.take k) ls.length).length)
    have HS:Hid ((ls++printOf X.iv X.ic (ks.take k) ls.length)++fx++[(33,((min k 1:Nat):Int),none')]=ls++printOf X.iv X.ic (ks.take (k+1)) ls.length):=by
     show _=_
     rw[printOf_take X.iv X.ic (List.getElem?_eq_getElem hkl) ls.length,hfx.out,List.length_append]
     simp
    have HLN:Hid ((ls++printOf X.iv X.ic (ks.take k) ls.length++fx).length+1≤40000000):=by
     show _≤_;have h1:=HB.out;have h2:=congrArg List.length HS.out;have h3:=printOf_len X.iv X.ic ks (k+1) ls.length;simp only[List.length_append,List.length_cons,List.length_nil] at h1 h2 ⊢;omega
    have CALL:Hid (Calls Tryz.prog 17 #[.pointer (some ⟨X.p,0,none⟩),.agg #[.int .i64 (opOf ks[k]),.int .i64 (numOf ks[k]),.string ⟨(txtOf ks[k]).toArray⟩,.slice ao' (kidsOf ks[k]).length cap']] wr fun e w'=>e=.returned (.tuple #[])∧At X w [(w.heap.size,51,[.int .i64 30,.int .i64 n,.string ⟨s.toArray⟩,.slice (some ⟨g,0,none⟩) ks.length cap])] (ls++printOf X.iv X.ic (ks.take k) ls.length++fx) w') :=
     at_e (HK.out ks[k] (List.getElem_mem hkl)) h5 i1 hfx.out (by have:=HLN.out;omega)
    have HI:Hid (∃ Sq,NodesIs X.W (ks.drop (k+1)) Sq (xs.drop ((k+1)*4))):=⟨T2,i2⟩;clear HH h1 h5 i1 i2 i3 i4 hc e0 e1 e2 e3 hfx
    go_wp2_with (go_at_call 17;refine hold ?_)
    refine Calls.mono CALL.out ?_;clear c0 c1 c2 c3 p3;rintro e w2 ⟨rfl,hK⟩
    obtain⟨jj,hjj⟩:=hid_eq (ls++printOf X.iv X.ic (ks.take k) ls.length++fx).length
    have CP:Hid (Calls Tryz.prog 18 #[.pointer (some ⟨X.p,0,none⟩),.int .i64 33,.int .i64 ((min k 1:Nat):Int),.string ⟨#[]⟩] w2 fun e w'=>e=.returned (.int .i64 jj)∧At X w [(w.heap.size,51,[.int .i64 30,.int .i64 n,.string ⟨s.toArray⟩,.slice (some ⟨g,0,none⟩) ks.length cap])] (ls++printOf X.iv X.ic (ks.take (k+1)) ls.length) w'):=by
     rw[← HS.out]
     exact at_put hK (by have:=HLN.out;omega) 33 ((min k 1:Nat):Int) none' hjj.out
    clear hK CALL HS HLN
    by_cases hk0:k=0
    ·subst hk0
     go_wp2_with (first|(go_at_call 75;(first|refine (sBit true _).mono ?_|refine (sBit false _).mono ?_);rintro e w9 ⟨rfl,rfl⟩;simp only[Bool.false_eq_true,if_false])|(go_at_call 18;refine hold ?_))
     refine Calls.mono CP.out ?_;rintro e w3 ⟨rfl,hK⟩;have HR:Hid ((∃ Sq,NodesIs X.W (ks.drop (0+1)) Sq (xs.drop ((0+1)*4)))∧At X w [(w.heap.size,51,[.int .i64 30,.int .i64 n,.string ⟨s.toArray⟩,.slice (some ⟨g,0,none⟩) ks.length cap])] (ls++printOf X.iv X.ic (ks.take (0+1)) ls.length) w3):=⟨HI.out,hK⟩;clear hK HI CP;go_wp2_with fail;go_roundw
     case rel=>exact⟨0+1,hkl,by go_num,HR⟩
     case measure=>simp[intOf];omega
    ·have hk1:(0:Int)<k:=by omega
     have hk2:decide ((0:Int)<k)=true:=decide_eq_true hk1;have hk3:decide (0<k)=true:=decide_eq_true (by omega);have hk4:0<k:=by omega
     rw[show min k 1=1 by omega] at CP
     go_wp2_with (first|(go_at_call 75;(first|refine (sBit true _).mono ?_|refine (sBit false _).mono ?_);rintro e w9 ⟨rfl,rfl⟩;simp only[if_true])|(go_at_call 18;refine hold ?_))
     refine Calls.mono CP.out ?_;rintro e w3 ⟨rfl,hK⟩;have HR:Hid ((∃ Sq,NodesIs X.W (ks.drop (k+1)) Sq (xs.drop ((k+1)*4)))∧At X w [(w.heap.size,51,[.int .i64 30,.int .i64 n,.string ⟨s.toArray⟩,.slice (some ⟨g,0,none⟩) ks.length cap])] (ls++printOf X.iv X.ic (ks.take (k+1)) ls.length) w3):=⟨HI.out,hK⟩;clear hK HI CP;go_wp2_with fail;go_roundw
     case rel=>exact⟨k+1,hkl,by go_num,HR⟩
     case measure=>simp[intOf];omega
   ·obtain rfl:k=ks.length:=by omega
    obtain⟨-,h5⟩:=HH.out
    rw[List.take_length] at h5
    have H5:Hid (At X w [(w.heap.size,51,[.int .i64 30,.int .i64 n,.string ⟨s.toArray⟩,.slice ao ks.length cap])] (ls++printOf X.iv X.ic ks ls.length) wr):=h5
    obtain⟨jj4,hjj4⟩:=hid_eq (ls++printOf X.iv X.ic ks ls.length).length
    clear h5 HH
    go_wp2_with (go_at_call 18;refine hold ?_)
    refine Calls.mono (at_put H5.out (by have h1:=HB.out;simp only[List.length_append,List.length_cons,List.length_nil] at h1 ⊢;omega) 34 0 none' hjj4.out) ?_;rintro e v4 ⟨rfl,hK⟩;have J4:Hid (At X w [(w.heap.size,51,[.int .i64 30,.int .i64 n,.string ⟨s.toArray⟩,.slice ao ks.length cap])] (ls++printOf X.iv X.ic ks ls.length++[((34,0,none'):Vl)]) v4):=hK;clear hK H5 p3;go_wp2_with fail;refine bodyPost_end (v:=.tuple #[]) ?_ rfl (J4.out.ends rfl);simp[results,Tryz.results71]

end Sp
end Go.Proofs.YtllbachngocmnaaGreatDoor
