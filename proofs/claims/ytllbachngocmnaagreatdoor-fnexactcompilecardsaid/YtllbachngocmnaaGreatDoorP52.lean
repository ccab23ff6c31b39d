/-
  The laws' markRuleS: rules get their marks; nothing else turns.
-/
import Derived.Test.YtllbachngocmnaaGreatDoorP31
import Derived.Test.YtllbachngocmnaaGreatDoorP19
namespace Go.Proofs.YtllbachngocmnaaGreatDoor
open Go.RowKit
namespace Mk
open Nd Ty Ck

set_option maxHeartbeats 2000000 in
set_option maxRecDepth 100000 in
theorem lMarkRules {rs:List Ru}{w:World}{S:Nat→Prop}{v:Value}{xs:List Value}{B:Nat}(hsz:sizR rs≤1048576)(ho:w.ownsRow B 53 9 v rs.length xs)(hr:RulesAp w rs S xs)(hS:∀ j,S j→j<w.heap.size∧v.ownBlock≠some j):
  Calls Tryz.prog 10 #[v,.int .i64 1] w fun e w'=>(∃ K:Nat,e=.returned (.int .i64 K))∧Turned S v w w':=by
 obtain⟨ao,cap,rfl⟩:=owns_slice ho
 have bn:(rs.length:Int)≤1048576:=by have:=sizR_len rs;omega
 go_enter Tryz.func10,Tryz.ntmps10
 go_wp2_with fail
 go_loopw [1,5] (fun kv i wr=>∃ (j kj:Nat) (xj:List Value) (Sj:Nat→Prop),j≤rs.length∧i=.int .i64 j∧kv=.int .i64 kj∧1≤kj∧kj≤1+7*sizR (rs.take j)∧wr.ownsRow B 53 9 (.slice ao rs.length cap) rs.length xj∧RulesAp wr (rs.drop j) Sj (xj.drop (j*9))∧(∀ b,Sj b→S b)∧Turned S (.slice ao rs.length cap) w wr) (fun _ i _=>rs.length - (intOf i).toNat)
 case atStart=>exact⟨0,1,xs,S,Nat.zero_le _,rfl,rfl,Nat.le_refl _,by simp[sizR],ho,by simpa using hr,fun _ h=>h,Turned.refl _ _ _⟩
 case round =>
  clear hr ho xs
  obtain⟨j,kj,xj,Sj,hj,rfl,rfl,hk1,hk2,ho,hx,hSj,hT⟩:=hrel
  by_cases hjl:j<rs.length
  ·have hji:rs[j]?=some rs[j]:=List.getElem?_eq_getElem hjl
   rw[List.drop_eq_getElem_cons hjl] at hx
   obtain⟨p0,p1,p2,p3,b0,b1,b2,b3,Sp,Sb,Sr,hx9,hp,hbd,hR2,s1,s2,s3⟩:=ap_open hx
   have hx2:(xj.drop (j*9)).drop 9=xj.drop ((j+1)*9):=by rw[List.drop_drop,show (j+1)*9=j*9+9 by omega]
   rw[hx2] at hR2 hx9
   obtain⟨g,rfl,hg,hc⟩:=row_cells ho hjl
   have hgS:¬ S g:=fun h=>(hS g h).2 rfl
   obtain⟨pop,pn,ps,pao,pcap,pxs,-,rfl,rfl,rfl,rfl,hop,hup,hyp⟩:=node_form hp
   obtain⟨bop,bn',bs,bao,bcap,bxs,-,rfl,rfl,rfl,rfl,hob,hub,hyb⟩:=node_form hbd
   have cc:∀ i x,(Value.int .i64 rs[j].1::.int .i64 pop::.int .i64 pn::.string ⟨ps.toArray⟩::.slice pao (kidsOf rs[j].2.1).length pcap::.int .i64 bop::.int .i64 bn'::.string ⟨bs.toArray⟩::.slice bao (kidsOf rs[j].2.2).length bcap::xj.drop ((j+1)*9))[i]?=some x→wr.cell? ⟨g,j*9+i,none⟩=some x:=fun i x hi=>by
    rw[← hx9,List.getElem?_drop] at hi
    exact hc _ x hi
   have c0:wr.cell? ⟨g,j*9,none⟩=_:=cc 0 _ rfl;have c1:wr.cell? ⟨g,j*9+1,none⟩=_:=cc 1 _ rfl;have c2:wr.cell? ⟨g,j*9+1+1,none⟩=_:=cc 2 _ rfl;have c3:wr.cell? ⟨g,j*9+1+2,none⟩=_:=cc 3 _ rfl;have c4:wr.cell? ⟨g,j*9+1+3,none⟩=_:=cc 4 _ rfl;have c5:wr.cell? ⟨g,j*9+5,none⟩=_:=cc 5 _ rfl;have c6:wr.cell? ⟨g,j*9+5+1,none⟩=_:=cc 6 _ rfl;have c7:wr.cell? ⟨g,j*9+5+2,none⟩=_:=cc 7 _ rfl;have c8:wr.cell? ⟨g,j*9+5+3,none⟩=_:=cc 8 _ rfl
   obtain⟨cs0,hrow⟩:=row_block ho
   have fz:∀ i,wr.frozen? ⟨g,i,none⟩=false:=frozen_of_row hrow;have hst:=sizR_take rs j _ hji;have hle:sizR (rs.take (j+1))≤sizR rs:=by have:=sizR_append (rs.take (j+1)) (rs.drop (j+1));rw[List.take_append_drop] at this;omega
   have hcp:=cnts_siz rs[j].2.1;have hcb:=cnts_siz rs[j].2.2;generalize hpk:kidsOf rs[j].2.1=pk at *;generalize hbk:kidsOf rs[j].2.2=bk at *
   obtain⟨K5,hK5⟩:∃ K5,K5=kj+4+3*cnts pk:=⟨_,rfl⟩
   obtain⟨K8,hK8⟩:∃ K8,K8=K5+3+3*cnts bk:=⟨_,rfl⟩
   have hltP:∀ b,Sp b→b<wr.heap.size∧b≠g:=fun b hb=>⟨Nat.lt_of_lt_of_le (hS b (hSj b (s1 b hb).1)).1 hT.size,fun e=>hgS (e ▸ hSj b (s1 b hb).1)⟩;have hltB:∀ b,Sb b→b<wr.heap.size∧b≠g:=fun b hb=>⟨Nat.lt_of_lt_of_le (hS b (hSj b (s2 b hb).1)).1 hT.size,fun e=>hgS (e ▸ hSj b (s2 b hb).1)⟩;have call1:∀ w4:World,(∀ b,b≠g→b<wr.heap.size→w4.heap[b]?=wr.heap[b]?)→wr.heap.size≤w4.heap.size→Calls Tryz.prog 29 #[.slice pao pk.length pcap,.int .i64 ((kj:Int)+1+1+1+1)] w4 fun e w'=>e=.returned (.int .i64 K5)∧Turned Sp (.slice pao pk.length pcap) w4 w':=by
    intro w4 hw4 hs4
    rw[show ((kj:Int)+1+1+1+1)=((kj+4:Nat):Int) by omega,hK5]
    refine (lMarkS pk (kj+4) w4 _ _ pxs (by omega) (by omega) (owns_same hop fun b hb=>hw4 b (hltP b (hup b hb)).2 (hltP b (hup b hb)).1) (nodes_frame (fun b hb=>hw4 b (hltP b hb.1).2 (hltP b hb.1).1) hyp) (fun b hb=>⟨Nat.lt_of_lt_of_le (hltP b hb.1).1 hs4,hb.2⟩)).mono ?_;rintro e w' ⟨rfl,hT'⟩
    exact⟨rfl,hT'.os,hT'.tape,hT'.output,hT'.size,fun b hb hn hne=>hT'.block b hb (fun h=>hn h.1) hne⟩
   have call2:∀ w4:World,(∀ b,Sb b→w4.heap[b]?=wr.heap[b]?)→wr.heap.size≤w4.heap.size→Calls Tryz.prog 29 #[.slice bao bk.length bcap,.int .i64 ((K5:Int)+1+1+1)] w4 fun e w'=>e=.returned (.int .i64 K8)∧Turned Sb (.slice bao bk.length bcap) w4 w':=by
    intro w4 hw4 hs4
    rw[show ((K5:Int)+1+1+1)=((K5+3:Nat):Int) by omega,hK8]
    refine (lMarkS bk (K5+3) w4 _ _ bxs (by omega) (by omega) (owns_same hob fun b hb=>hw4 b (hub b hb)) (nodes_frame (fun b hb=>hw4 b hb.1) hyb) (fun b hb=>⟨Nat.lt_of_lt_of_le (hltB b hb.1).1 hs4,hb.2⟩)).mono ?_;rintro e w' ⟨rfl,hT'⟩
    exact⟨rfl,hT'.os,hT'.tape,hT'.output,hT'.size,fun b hb hn hne=>hT'.block b hb (fun h=>hn h.1) hne⟩
   have mt1:∀ w0:World,Calls Tryz.prog 28 #[.int .i64 ((kj:Int)+1+1+1)] w0 fun e w'=>(∃ t,e=.returned (.string t))∧Below w0.heap.size w0 w':=fun w0=>by
    rw[show ((kj:Int)+1+1+1)=((kj+3:Nat):Int) by omega]
    exact (lMarkText (kj+3) (by omega) (by omega) w0).mono fun e w' h=>⟨⟨_,h.1⟩,h.2⟩
   have mt2:∀ w0:World,Calls Tryz.prog 28 #[.int .i64 ((K5:Int)+1+1)] w0 fun e w'=>(∃ t,e=.returned (.string t))∧Below w0.heap.size w0 w':=fun w0=>by
    rw[show ((K5:Int)+1+1)=((K5+2:Nat):Int) by omega]
    exact (lMarkText (K5+2) (by omega) (by omega) w0).mono fun e w' h=>⟨⟨_,h.1⟩,h.2⟩
   have HK:Hid (1≤K8∧K8≤1+7*sizR (rs.take (j+1))):=⟨by omega,by omega⟩;have kb:(kj:Int)≤9000000:=by omega
   have kl:(1:Int)≤kj:=by omega
   have kb5:(K5:Int)≤9000000:=by omega
   have kl5:(1:Int)≤K5:=by omega
   have kb8:(K8:Int)≤9000000:=by omega
   have bj:(j:Int)<rs.length:=by omega
   obtain⟨A3,hA3⟩:∃ A3,A3=((wr.setCell ⟨g,j*9,none⟩ (.int .i64 kj)).setCell ⟨g,j*9+1,none⟩ (.int .i64 ((kj:Int)+1))).setCell ⟨g,j*9+1+1,none⟩ (.int .i64 ((kj:Int)+1+1)):=⟨_,rfl⟩
   have far3:∀ i,i≠j*9→i≠j*9+1→i≠j*9+1+1→A3.cell? ⟨g,i,none⟩=wr.cell? ⟨g,i,none⟩:=fun i h1 h2 h3=>by rw[hA3,set_far _ _ _ h3,set_far _ _ _ h2,set_far _ _ _ h1]
   have fz3:∀ i,A3.frozen? ⟨g,i,none⟩=false:=fun i=>by rw[hA3];simpa using fz i
   have oth3:∀ b,b≠g→A3.heap[b]?=wr.heap[b]?:=fun b hb=>by rw[hA3,Below.heap_setCell _ _ _ _ hb,Below.heap_setCell _ _ _ _ hb,Below.heap_setCell _ _ _ _ hb]
   have sz3:A3.heap.size=wr.heap.size:=by rw[hA3];simp
   have hg3:g<A3.heap.size:=by rw[sz3];exact hg
   have d1:(wr.setCell ⟨g,j*9,none⟩ (.int .i64 kj)).cell? ⟨g,j*9+1,none⟩=some (.int .i64 pop):=(set_far _ _ _ (by omega)).trans c1;have d2:((wr.setCell ⟨g,j*9,none⟩ (.int .i64 kj)).setCell ⟨g,j*9+1,none⟩ (.int .i64 ((kj:Int)+1))).cell? ⟨g,j*9+1+1,none⟩=some (.int .i64 pn):=(set_far _ _ _ (by omega)).trans ((set_far _ _ _ (by omega)).trans c2);have f0:=fz (j*9);have f1:(wr.setCell ⟨g,j*9,none⟩ (.int .i64 kj)).frozen? ⟨g,j*9+1,none⟩=false:=by simpa using fz (j*9+1)
   have f2:((wr.setCell ⟨g,j*9,none⟩ (.int .i64 kj)).setCell ⟨g,j*9+1,none⟩ (.int .i64 ((kj:Int)+1))).frozen? ⟨g,j*9+1+1,none⟩=false:=by simpa using fz (j*9+1+1)
   have HA:Hid _:=hA3;have HR2:Hid _:=hR2;clear hA3 hx cc hc hji hst hle hcp hcb hK5 hK8 hk1 hk2 hp hbd hop hob hyp hyb hx9 hx2 hR2 hsz hpk hbk
   go_wp2_with (go_at_call 28;refine hold ?_)
   refine (show Calls Tryz.prog 28 _ (((wr.setCell ⟨g,j*9,none⟩ (.int .i64 kj)).setCell ⟨g,j*9+1,none⟩ (.int .i64 ((kj:Int)+1))).setCell ⟨g,j*9+1+1,none⟩ (.int .i64 ((kj:Int)+1+1))) _ from ?_)
   rw[← HA.out]
   refine (mt1 A3).mono ?_;rintro e w3 ⟨⟨t1,rfl⟩,hb3⟩;have q3:∀ i,i≠j*9→i≠j*9+1→i≠j*9+1+1→w3.cell? ⟨g,i,none⟩=wr.cell? ⟨g,i,none⟩:=fun i h1 h2 h3=>(hb3.cell (p:=⟨g,i,none⟩) hg3).trans (far3 i h1 h2 h3);have z3:∀ i,w3.frozen? ⟨g,i,none⟩=false:=fun i=>(hb3.frozen (p:=⟨g,i,none⟩) hg3).trans (fz3 i);have e3:=(q3 (j*9+1+2) (by omega) (by omega) (by omega)).trans c3;have z3':=z3 (j*9+1+2)
   obtain⟨A4,hA4⟩:∃ A4,A4=w3.setCell ⟨g,j*9+1+2,none⟩ (.string t1):=⟨_,rfl⟩
   have q4:∀ i,i≠j*9→i≠j*9+1→i≠j*9+1+1→i≠j*9+1+2→A4.cell? ⟨g,i,none⟩=wr.cell? ⟨g,i,none⟩:=fun i h1 h2 h3 h4=>by rw[hA4,set_far _ _ _ h4];exact q3 i h1 h2 h3
   have z4:∀ i,A4.frozen? ⟨g,i,none⟩=false:=fun i=>by rw[hA4];simpa using z3 i
   have oth4:∀ b,b≠g→b<wr.heap.size→A4.heap[b]?=wr.heap[b]?:=fun b hb hl=>by rw[hA4,Below.heap_setCell _ _ _ _ hb,hb3.block b (by omega),oth3 b hb]
   have sz4:wr.heap.size≤A4.heap.size:=by rw[hA4];have:=hb3.size;simp;omega
   have e4:(w3.setCell ⟨g,j*9+1+2,none⟩ (.string t1)).cell? ⟨g,j*9+1+3,none⟩=some (.slice pao pk.length pcap):=by rw[← hA4];exact (q4 _ (by omega) (by omega) (by omega) (by omega)).trans c4
   have o4:A4.ownsRow B 53 9 (.slice (some ⟨g,0,none⟩) rs.length cap) rs.length ((((xj.set (j*9) (.int .i64 kj)).set (j*9+1) (.int .i64 ((kj:Int)+1))).set (j*9+1+1) (.int .i64 ((kj:Int)+1+1))).set (j*9+1+2) (.string t1)):=by
    have h3:=owns_set (owns_set (owns_set ho (j*9) (.int .i64 kj)) (j*9+1) (.int .i64 ((kj:Int)+1))) (j*9+1+1) (.int .i64 ((kj:Int)+1+1))
    rw[← HA.out] at h3
    rw[hA4]
    exact owns_set (owns_same h3 fun b hb=>by simp only[Value.ownBlock,Option.some.injEq] at hb;subst hb;exact hb3.block _ hg3) _ _
   have HA4:Hid _:=hA4;have os4:A4.os=wr.os∧A4.tape=wr.tape∧A4.output=wr.output:=by
    rw[hA4]
    have a1:=hb3.os;have a2:=hb3.tape;have a3:=hb3.output
    rw[HA.out] at a1 a2 a3
    exact⟨a1,a2,a3⟩
   clear hA4 HA q3 z3 far3 fz3 oth3 d1 d2 f0 f1 f2 mt1 c0 c1 c2 c3 c4 fz ho
   go_wp2_with (go_at_call 29;refine hold ?_)
   refine (show Calls Tryz.prog 29 _ (w3.setCell ⟨g,j*9+1+2,none⟩ (.string t1)) _ from ?_)
   rw[← HA4.out]
   refine (call1 A4 oth4 sz4).mono ?_;rintro e w5 ⟨rfl,hT5⟩;have hgP:¬ Sp g:=fun h=>(hltP g h).2 rfl;have hgB:¬ Sb g:=fun h=>(hltB g h).2 rfl;have hg4:g<A4.heap.size:=Nat.lt_of_lt_of_le hg sz4;have hg5:w5.heap[g]?=A4.heap[g]?:=hT5.block g hg4 hgP (fun e=>hgP (hup g e));have sz5:wr.heap.size≤w5.heap.size:=Nat.le_trans sz4 hT5.size;have hgl5:g<w5.heap.size:=Nat.lt_of_lt_of_le hg sz5;have q5:∀ i,j*9+5≤i→w5.cell? ⟨g,i,none⟩=wr.cell? ⟨g,i,none⟩:=fun i hi=>(World.cell?_of_block hg5).trans (q4 i (by omega) (by omega) (by omega) (by omega));have z5:∀ i,w5.frozen? ⟨g,i,none⟩=false:=fun i=>(World.frozen?_of_block hg5).trans (z4 i);have o5:=owns_same (w':=w5) o4 fun b hb=>by simp only[Value.ownBlock,Option.some.injEq] at hb;subst hb;exact hg5
   have oth5:∀ b,b≠g→b<wr.heap.size→¬ Sp b→w5.heap[b]?=wr.heap[b]?:=fun b hb hl hn=>(hT5.block b (by omega) hn (fun e=>hn (hup b e))).trans (oth4 b hb hl);have os5:w5.os=wr.os∧w5.tape=wr.tape∧w5.output=wr.output:=⟨hT5.os.trans os4.1,hT5.tape.trans os4.2.1,hT5.output.trans os4.2.2⟩;clear hT5 o4 oth4 q4 z4 HA4 e3 z3' e4 call1 hg5 hg4 sz4 os4 hb3;have g5:=(q5 (j*9+5) (by omega)).trans c5;have y5:=z5 (j*9+5);have g6:(w5.setCell ⟨g,j*9+5,none⟩ (.int .i64 K5)).cell? ⟨g,j*9+5+1,none⟩=some (.int .i64 bn'):=(set_far _ _ _ (by omega)).trans ((q5 _ (by omega)).trans c6);have y6:(w5.setCell ⟨g,j*9+5,none⟩ (.int .i64 K5)).frozen? ⟨g,j*9+5+1,none⟩=false:=by simpa using z5 (j*9+5+1)
   obtain⟨A6,hA6⟩:∃ A6,A6=(w5.setCell ⟨g,j*9+5,none⟩ (.int .i64 K5)).setCell ⟨g,j*9+5+1,none⟩ (.int .i64 ((K5:Int)+1)):=⟨_,rfl⟩
   have q6:∀ i,j*9+5+1<i→A6.cell? ⟨g,i,none⟩=wr.cell? ⟨g,i,none⟩:=fun i hi=>by rw[hA6,set_far _ _ _ (by omega),set_far _ _ _ (by omega)];exact q5 i (by omega)
   have z6:∀ i,A6.frozen? ⟨g,i,none⟩=false:=fun i=>by rw[hA6];simpa using z5 i
   have oth6:∀ b,b≠g→A6.heap[b]?=w5.heap[b]?:=fun b hb=>by rw[hA6,Below.heap_setCell _ _ _ _ hb,Below.heap_setCell _ _ _ _ hb]
   have sz6:A6.heap.size=w5.heap.size:=by rw[hA6];simp
   have hg6:g<A6.heap.size:=by omega
   have o6:=owns_set (owns_set o5 (j*9+5) (.int .i64 K5)) (j*9+5+1) (.int .i64 ((K5:Int)+1))
   rw[← hA6] at o6
   have os6:A6.os=wr.os∧A6.tape=wr.tape∧A6.output=wr.output:=by rw[hA6];exact os5
   have HA6:Hid _:=hA6;clear hA6 q5 z5 o5 os5
   go_wp2_with (go_at_call 28;refine hold ?_)
   refine (show Calls Tryz.prog 28 _ ((w5.setCell ⟨g,j*9+5,none⟩ (.int .i64 K5)).setCell ⟨g,j*9+5+1,none⟩ (.int .i64 ((K5:Int)+1))) _ from ?_)
   rw[← HA6.out]
   refine (mt2 A6).mono ?_;rintro e w6 ⟨⟨t2,rfl⟩,hb6⟩;have g7:=((hb6.cell (p:=⟨g,j*9+5+2,none⟩) hg6).trans (q6 _ (by omega))).trans c7;have y7:=(hb6.frozen (p:=⟨g,j*9+5+2,none⟩) hg6).trans (z6 _);have g8:(w6.setCell ⟨g,j*9+5+2,none⟩ (.string t2)).cell? ⟨g,j*9+5+3,none⟩=some (.slice bao bk.length bcap):=(set_far _ _ _ (by omega)).trans (((hb6.cell (p:=⟨g,j*9+5+3,none⟩) hg6).trans (q6 _ (by omega))).trans c8)
   obtain⟨A7,hA7⟩:∃ A7,A7=w6.setCell ⟨g,j*9+5+2,none⟩ (.string t2):=⟨_,rfl⟩
   have oth7:∀ b,b≠g→b<wr.heap.size→¬ Sp b→A7.heap[b]?=wr.heap[b]?:=fun b hb hl hn=>by rw[hA7,Below.heap_setCell _ _ _ _ hb,hb6.block b (by omega),oth6 b hb,oth5 b hb hl hn]
   have sz7:wr.heap.size≤A7.heap.size:=by rw[hA7];have:=hb6.size;simp;omega
   have o7:=owns_set (owns_same (w':=w6) o6 fun b hb=>by simp only[Value.ownBlock,Option.some.injEq] at hb;subst hb;exact hb6.block _ hg6) (j*9+5+2) (.string t2)
   rw[← hA7] at o7
   have os7:A7.os=wr.os∧A7.tape=wr.tape∧A7.output=wr.output:=by rw[hA7];exact⟨hb6.os.trans os6.1,hb6.tape.trans os6.2.1,hb6.output.trans os6.2.2⟩
   have HA7:Hid _:=hA7;have c2':=call2 A7 (fun b hb=>oth7 b (hltB b hb).2 (hltB b hb).1 (fun h=>(s1 b h).2.1 hb)) sz7;clear hA7 HA6 q6 z6 oth6 oth5 o6 os6 hb6 mt2 call2 c5 c6 c7 c8 g5 y5 g6 y6
   go_wp2_with (go_at_call 29;refine hold ?_)
   refine (show Calls Tryz.prog 29 _ (w6.setCell ⟨g,j*9+5+2,none⟩ (.string t2)) _ from ?_)
   rw[← HA7.out]
   refine c2'.mono ?_;rintro e w8 ⟨rfl,hT8⟩;have hg7:g<A7.heap.size:=Nat.lt_of_lt_of_le hg sz7;have hg8:w8.heap[g]?=A7.heap[g]?:=hT8.block g hg7 hgB (fun e=>hgB (hub g e));have o8:=owns_same (w':=w8) o7 fun b hb=>by simp only[Value.ownBlock,Option.some.injEq] at hb;subst hb;exact hg8
   have sz8:wr.heap.size≤w8.heap.size:=Nat.le_trans sz7 hT8.size;have oth8:∀ b,b≠g→b<wr.heap.size→¬ Sp b→¬ Sb b→w8.heap[b]?=wr.heap[b]?:=fun b hb hl hn hn2=>(hT8.block b (by omega) hn2 (fun e=>hn2 (hub b e))).trans (oth7 b hb hl hn);have hrest:=ap_frame (w':=w8) (fun b hb=>oth8 b (fun e=>hgS (e ▸ hSj b (s3 b hb))) (Nat.lt_of_lt_of_le (hS b (hSj b (s3 b hb))).1 hT.size) (fun h=>(s1 b h).2.2 hb) (fun h=>(s2 b h).2 hb)) HR2.out;have hTT:Turned S (.slice (some ⟨g,0,none⟩) rs.length cap) w w8 :=
    ⟨(hT8.os.trans os7.1).trans hT.os,(hT8.tape.trans os7.2.1).trans hT.tape,(hT8.output.trans os7.2.2).trans hT.output,Nat.le_trans hT.size sz8,fun b hb hn hne=>(oth8 b (fun e=>hne (by rw[e];rfl)) (Nat.lt_of_lt_of_le hb hT.size) (fun h=>hn (hSj b (s1 b h).1)) (fun h=>hn (hSj b (s2 b h).1))).trans (hT.block b hb hn hne)⟩
   clear hT8 o7 oth7 os7 HA7 g7 y7 g8;go_wp2_with fail;go_roundw
   case rel=>exact⟨j+1,K8,_,Sr,hjl,by go_num,rfl,HK.out.1,HK.out.2,o8,by rw[List.drop_set,if_pos (by omega),List.drop_set,if_pos (by omega),List.drop_set,if_pos (by omega),List.drop_set,if_pos (by omega),List.drop_set,if_pos (by omega),List.drop_set,if_pos (by omega),List.drop_set,if_pos (by omega)];exact hrest,fun b hb=>hSj b (s3 b hb),hTT⟩
   case measure=>simp[intOf];omega
  ·go_wp2_with fail;go_ret
   exact⟨⟨_,rfl⟩,hT⟩

end Mk
end Go.Proofs.YtllbachngocmnaaGreatDoor
