/-
  The nodes of rules come one by one: the function that eachNode makes.
-/
import Derived.Test.YtllbachngocmnaaGreatDoorP25
import Derived.Maps.OwnSet
import Derived.Test.YtllbachngocmnaaGreatDoorP21
namespace Go.Proofs.YtllbachngocmnaaGreatDoor
open Go.RowKit
namespace Ck
open Nd Ty
attribute [local go_sem] Oper.semAt_some

structure Base (w W wr:World)(m:Nat)(G:List Nat)(Sr Sx:Nat→Prop)(ro:Option Nat):Prop where
 map:MapIs wr m G
 new:W.heap.size≤m
 free:∀ g∈G,Cellsy w g∧¬ Sr g
 old:∀ k,Cellsy w k→wr.heap[k]?=w.heap[k]?
 no:∀ k,Sx k→¬ Cellsy wr k
 size:W.heap.size≤wr.heap.size
 row:∀ g,ro=some g→wr.heap[g]?=w.heap[g]?

theorem Base.less {w W wr:World}{m:Nat}{G:List Nat}{Sr Sr' Sx:Nat→Prop}{ro:Option Nat}(h:Base w W wr m G Sr Sx ro)(hS:∀ k,Sr' k→Sr k):Base w W wr m G Sr' Sx ro :=
 { h with free:=fun g hg=>⟨(h.free g hg).1,fun hs=>(h.free g hg).2 (hS g hs)⟩ }
theorem Base.below {w W wr wr':World}{m:Nat}{G:List Nat}{Sr Sx:Nat→Prop}{ro:Option Nat}(h:Base w W wr m G Sr Sx ro)(hS:∀ k,Sx k→k<W.heap.size)(hro:∀ g,ro=some g→g<wr.heap.size)(hb:Below wr.heap.size wr wr'):Base w W wr' m G Sr Sx ro where
 map:=h.map.same (hb.block _ h.map.lt)
 new:=h.new
 free:=h.free
 old:=fun k hk=>by
  have h1:=h.old k hk
  obtain⟨cur,hc⟩:=hk
  exact (hb.block k (heap_lt (h1.trans hc))).trans h1
 no:=fun k hk hc=>h.no k hk (by obtain⟨cur,hc⟩:=hc;exact⟨cur,(hb.block k (Nat.lt_of_lt_of_le (hS k hk) h.size)).symm.trans hc⟩)
 size:=Nat.le_trans h.size hb.size
 row:=fun g hg=>(hb.block g (hro g hg)).trans (h.row g hg)
theorem Base.cy {w W wr:World}{m:Nat}{G:List Nat}{Sr Sx:Nat→Prop}{ro:Option Nat}(h:Base w W wr m G Sr Sx ro){k:Nat}(hk:Cellsy w k):Cellsy wr k:=by
 have:=h.old k hk
 obtain⟨cur,hc⟩:=hk
 exact⟨cur,this.trans hc⟩
theorem Base.keep {w W wr wr':World}{m:Nat}{G:List Nat}{Sr Sx:Nat→Prop}{ro:Option Nat}(h:Base w W wr m G Sr Sx ro)(hS:∀ k,Sx k→k<W.heap.size)(hro:∀ g,ro=some g→¬ Sx g∧∃ o,w.heap[g]?=some o∧o.isCells=true)(hk:Keep Sx wr wr'):Base w W wr' m G Sr Sx ro where
 map:=hk.map (fun hs=>by have:=hS m hs;have:=h.new;omega) h.map
 new:=h.new
 free:=h.free
 old:=fun k hc=>(hk.nodes h.no (h.cy hc)).trans (h.old k hc)
 no:=fun k hs=>hk.no k hs (h.no k hs)
 size:=Nat.le_trans h.size hk.size
 row:=fun g hg=>by
  obtain⟨hn,o,ho,hc⟩:=hro g hg
  rw[ho]
  exact hk.same g o ((h.row g hg).trans ho) hn (.inl hc)

def Lv (w W:World)(m:Nat)(Sr Sx:Nat→Prop)(ro:Option Nat)(rs:List Ru)(k:Nat)(J:List (Nde w rs)→World→Prop)(f:Nat)(lv:Value)(wr:World):Prop :=
 ∃ (ls:List (List Data)) (vs xs:List Value) (S:Nat→Prop) (pre:List (Nde w rs)) (G:List Nat),wr.ownsRow W.heap.size 49 1 lv ls.length vs∧RowsIs wr ls vs xs∧NodesIs wr ls.flatten S xs∧(∀ l∈ls,l≠[])∧cnts ls.flatten≤1048577∧(∀ t∈ls.flatten,siz t≤1048576) ∧
  (∀ b,S b→Cellsy w b∧¬ Sr b)∧(∀ g∈G,¬ S g)∧Base w W wr m G Sr Sx ro∧deps ls.flatten≤f∧pre.map Nde.key++(bfs f ls).map (fun t=>(k,t))=visit 0 (rs.take (k+1))∧J pre wr

theorem abide {w:World}{rs:List Ru}{J:List (Nde w rs)→World→Prop}{B:Nat}(hJ:AbidesFrom B J){s:List (Nde w rs)}{A A':World}(h:J s A)(hb:Below A.heap.size A A'):J s A' :=
 hJ s A A' none h ⟨hb.os,hb.tape,hb.output,hb.size,fun k hk _=>hb.block k hk⟩ (fun r e=>by cases e)
theorem abide_map {w:World}{rs:List Ru}{J:List (Nde w rs)→World→Prop}{B m:Nat}{G:List Nat}(hJ:AbidesFrom B J){s:List (Nde w rs)}{A A':World}(h:J s A)(hm:MapIs A m G)(hB:B≤m)(hf:Fr (fun k=>k=m) A A'):J s A' :=
 hJ s A A' (some m) h ⟨hf.os,hf.tape,hf.output,hf.size,fun k hk hne=>hf.block k hk fun e=>hne (by rw[e])⟩ (fun r e=>by
  cases e
  obtain⟨es,c,h1,_⟩:=hm
  exact⟨hB,_,h1,rfl⟩)

theorem lv_next {w W w3 w4:World}{m:Nat}{Sr Sx:Nat→Prop}{ro:Option Nat}{rs:List Ru}{k f:Nat}{J:List (Nde w rs)→World→Prop}(hJ:AbidesFrom W.heap.size J){ls:List (List Data)}{pre:List (Nde w rs)}{G:List Nat}{v:Value}
  (hS:∀ k,Sx k→k<W.heap.size) (hro:∀ g,ro=some g→¬ Sx g∧∃ o,w.heap[g]?=some o∧o.isCells=true) (hB3:Base w W w3 m G Sr Sx ro) (hne:ls.flatten≠[]) (hc:cnts ls.flatten≤1048577) (hz:∀ t∈ls.flatten,siz t≤1048576) (hd:deps ls.flatten≤f+1)
  (hpre:pre.map Nde.key++(bfs f (below ls)).map (fun t=>(k,t))=visit 0 (rs.take (k+1))) (hJ3:J pre w3)
  (hG:Got w3 w4 m G.length (fun b=>¬ (Cellsy w b∧¬ Sr b)) (below ls) v):Lv w W m Sr Sx ro rs k J f v w4:=by
 obtain⟨vs,xb,Sb,G',g1,g2,g3,g4,g5,g6,g7,g8,g9⟩:=hG
 have hcy:∀ g,Cellsy w3 g→w4.heap[g]?=w3.heap[g]?:=fun g hg=>by
  have:=hB3.map.not hg
  obtain⟨cur,hc⟩:=hg
  exact g9.block g (heap_lt hc) this
 have hb:∀ b,Sb b→Cellsy w b∧¬ Sr b:=fun b hb=>Classical.byContradiction fun h=>g8 b hb h;have hm4:=g4
 refine⟨below ls,vs,xb,Sb,pre,G',owns_base g1 hB3.size,rows_frame hcy g2,nodes_frame (fun b h=>hcy b (hB3.cy (hb b h).1)) g3,?_,?_,siz_below hz,hb,fun g hg=>(g7 g hg).2,?_,?_,hpre,abide_map hJ hJ3 hB3.map hB3.new g9⟩
 ·rw[below_flat];exact below1_ne _
 ·have:=below1_cnts ls.flatten
  rw[← below_flat] at this
  omega
 ·refine⟨g4,hB3.new,fun g hg=>Classical.byContradiction fun h=>(g7 g hg).1 h,fun k hk=>(hcy k (hB3.cy hk)).trans (hB3.old k hk),fun k hk hc=>hB3.no k hk ?_,Nat.le_trans hB3.size g9.size,fun g hg=>?_⟩
  ·have h1:=hS k hk;have h2:=hB3.new;have h3:=hB3.size
   obtain⟨cur,hc⟩:=hc
   exact⟨cur,(g9.block k (by omega) (by omega)).symm.trans hc⟩
  ·obtain⟨hn,o,ho,hc⟩:=hro g hg
   have h1:=hB3.row g hg;refine (g9.block g (heap_lt (h1.trans ho)) ?_).trans h1;rintro rfl
   obtain⟨es,c,hm,_⟩:=hB3.map
   rw[h1,ho] at hm
   cases hm;cases hc
 ·have:=deps_below hne
  omega

theorem rows_at {w:World}:∀ {ls:List (List Data)} {vs xs:List Value} {S:Nat→Prop} {q:Nat} {l:List Data},RowsIs w ls vs xs→NodesIs w ls.flatten S xs→ls[q]?=some l→∃ (v:Value) (c:List Value) (S':Nat→Prop),vs[q]?=some v∧w.ownsRow 0 51 4 v l.length c∧NodesIs w l S' c∧∀ b,S' b→S b
 | [],vs,xs,S,q,l,_,_,hq=>by simp at hq
 | l0::ls,vs,xs,S,q,l,hR,hN,hq=>by
  obtain⟨hv,vs',c1,c2,rfl,rfl,hrow,hR2⟩:=hR
  rw[List.flatten_cons] at hN
  obtain⟨S1,S2,d1,d2,hdd,hN1,hN2,hS12,hS2⟩:=nodes_split hN
  obtain⟨rfl,rfl⟩:=List.append_inj hdd (by rw[hrow.1,nodes_len hN1])
  cases q with
  | zero =>
   simp at hq;subst hq
   exact⟨hv,c1,S1,rfl,hrow,hN1,fun b hb=>(hS12 b hb).1⟩
  | succ q =>
   obtain⟨v,c,S',a1,a2,a3,a4⟩:=rows_at hR2 hN2 (by simpa using hq)
   exact⟨v,c,S',by simpa using a1,a2,a3,fun b hb=>hS2 b (a4 b hb)⟩

set_option maxHeartbeats 4000000 in
set_option maxRecDepth 100000 in
theorem nodes_stops {rs:List Ru}{w:World}{Bl cap B n:Nat}{ao:Option Addr}{xs0:List Value}{S0 Sx:Nat→Prop}(hsz:sizR rs≤1048576)(hbox:w.heap[Bl]?=some (.cells #[.slice ao rs.length cap] 30 (0,0)))
  (ho:w.ownsRow B 53 9 (.slice ao rs.length cap) rs.length xs0) (hr:RulesAp w rs S0 xs0) (hcy:∀ k,S0 k→Cellsy w k) (hSx:∀ k,Sx k→k<w.heap.size∧¬ Cellsy w k∧(Value.slice ao rs.length cap).ownBlock≠some k) (hn:2≤n):
  SeqStopsK Fence.wide n Tryz.prog 134 #[.pointer (some ⟨Bl,0,none⟩)] Nde.encs (Keep Sx) (fun ys:List (Nde w rs)=>ys.map Nde.key=visit 0 rs) (fun pre=>pre.map Nde.key <+: visit 0 rs) (visit 0 rs).length w:=by
 intro l J Jx W hW hJ hJx hY h0;have hS:∀ k,Sx k→k<W.heap.size:=fun k hk=>Nat.lt_of_lt_of_le (hSx k hk).1 hW.size;have hro:∀ g,(Value.slice ao rs.length cap).ownBlock=some g→¬ Sx g∧∃ o,w.heap[g]?=some o∧o.isCells=true:=fun g hg=>⟨fun hs=>(hSx g hs).2.2 hg,by
  rcases ho.2 with ⟨e,_⟩|⟨g',cap',cur,e,_,hb,_⟩
  ·rw[e] at hg;simp[Value.ownBlock] at hg
  ·rw[e] at hg;simp[Value.ownBlock] at hg;subst hg;exact⟨_,hb,rfl⟩⟩
 have hbox':(W.alloc (.map #[] 0)).cell? ⟨Bl,0,none⟩=some (.slice ao rs.length cap):=by
  have:=(Below.heap_alloc W (.map #[] 0) Bl (Nat.lt_of_lt_of_le (heap_lt hbox) hW.size)).trans ((hW.block Bl (heap_lt hbox)).trans hbox)
  simp only[World.cell?,this];rfl
 have bn:(rs.length:Int)≤1048576:=by have:=sizR_len rs;omega
 have hmm:=@run_makeMap Tryz.prog;have hn1:1≤n:=by omega
 have hB0:Base w W (W.alloc (.map #[] 0)) W.heap.size [] S0 Sx (Value.slice ao rs.length cap).ownBlock :=
  Base.below (wr:=W.alloc (.map #[] 0)) ⟨mapIs_made W,Nat.le_refl _,fun g hg=>by simp at hg,fun k hk=>by
    obtain⟨cur,hc⟩:=hk
    rw[Below.heap_alloc _ _ _ (Nat.lt_of_lt_of_le (heap_lt hc) hW.size)]
    exact hW.block k (heap_lt hc),fun k hk hc=>(hSx k hk).2.1 (by
    obtain⟨cur,hc⟩:=hc
    rw[Below.heap_alloc _ _ _ (hS k hk),hW.block k (hSx k hk).1] at hc
    exact⟨cur,hc⟩),by simp,fun g hg=>by
    obtain⟨_,o,h1,_⟩:=hro g hg
    rw[Below.heap_alloc _ _ _ (Nat.lt_of_lt_of_le (heap_lt h1) hW.size)]
    exact hW.block g (heap_lt h1)⟩ hS (fun g hg=>by
    obtain⟨_,o,h1,_⟩:=hro g hg
    have:=hW.size
    have:=heap_lt h1
    simp;omega) (Below.refl _ _)
 have hJ0:J [] (W.alloc (.map #[] 0)):=abide hJ h0 ((Below.refl _ W).alloc (Nat.le_refl _) _);refine callsIn_of_wp Tryz.func134 rfl trivial ?_ rfl;simp only[Tryz.ntmps134,List.size_toArray,List.length_cons,List.length_nil,Nat.reduceAdd,Nat.reduceSub,Array.replicate_succ,Array.replicate_zero,List.push_toArray,List.append_toArray,List.nil_append,List.cons_append]
 gi_wp2
 gi_loopw [14] (fun i wr=>∃ k:Nat,k≤rs.length∧i=.int .i64 k∧∃ (pre:List (Nde w rs)) (G:List Nat) (Sr:Nat→Prop),RulesAp w (rs.drop k) Sr (xs0.drop (k*9))∧(∀ b,Sr b→Cellsy w b)∧Base w W wr W.heap.size G Sr Sx (Value.slice ao rs.length cap).ownBlock∧pre.map Nde.key=visit 0 (rs.take k)∧J pre wr) (fun i _=>rs.length - (intOf i).toNat)
 case atStart=>exact⟨0,Nat.zero_le _,rfl,[],[],S0,by simpa using hr,hcy,hB0,by simp[visit],hJ0⟩
 case round =>
  obtain⟨k,hk,rfl,pre,G,Sr,hR,hSr,hB,hpre,hJp⟩:=hrel
  by_cases hkl:k<rs.length
  ·have hki:rs[k]?=some rs[k]:=List.getElem?_eq_getElem hkl
   rw[List.drop_eq_getElem_cons hkl] at hR
   obtain⟨p0,p1,p2,p3,b0,b1,b2,b3,Sp,Sb,Sr',hx9,hp,hbd,hR2,k1,k2,k3⟩:=ap_open hR
   have hx2:(xs0.drop (k*9)).drop 9=xs0.drop ((k+1)*9):=by rw[List.drop_drop,show (k+1)*9=k*9+9 by omega]
   rw[hx2] at hR2 hx9
   obtain⟨g,rfl,hg,hc⟩:=row_cells ho hkl
   have cc:∀ j x,(Value.int .i64 rs[k].1::p0::p1::p2::p3::b0::b1::b2::b3::xs0.drop ((k+1)*9))[j]?=some x→wr.cell? ⟨g,k*9+j,none⟩=some x:=fun j x hx=>by
    rw[← hx9,List.getElem?_drop] at hx
    exact (World.cell?_of_block (hB.row g rfl)).trans (hc _ x hx)
   have c0:wr.cell? ⟨g,k*9,none⟩=_:=cc 0 _ rfl;have c1:wr.cell? ⟨g,k*9+1,none⟩=_:=cc 1 _ rfl;have c2:wr.cell? ⟨g,k*9+1+1,none⟩=_:=cc 2 _ rfl;have c3:wr.cell? ⟨g,k*9+1+2,none⟩=_:=cc 3 _ rfl;have c4:wr.cell? ⟨g,k*9+1+3,none⟩=_:=cc 4 _ rfl;have c5:wr.cell? ⟨g,k*9+5,none⟩=_:=cc 5 _ rfl;have c6:wr.cell? ⟨g,k*9+5+1,none⟩=_:=cc 6 _ rfl;have c7:wr.cell? ⟨g,k*9+5+2,none⟩=_:=cc 7 _ rfl;have c8:wr.cell? ⟨g,k*9+5+3,none⟩=_:=cc 8 _ rfl;have hszr:=sizR_mem (List.getElem_mem hkl);have hvt:=visit_take hki
   obtain⟨pop,pn,ps,pao,pcap,pxs,-,rfl,rfl,rfl,rfl,-,-,-⟩:=node_form hp
   obtain⟨bop,bn',bs,bao,bcap,bxs,-,rfl,rfl,rfl,rfl,-,-,-⟩:=node_form hbd
   obtain⟨o1,ho1⟩:∃ o1,o1=Obj.cells #[.int .i64 rs[k].1,.int .i64 pop,.int .i64 pn,.string ⟨ps.toArray⟩,.slice pao (kidsOf rs[k].2.1).length pcap,.int .i64 bop,.int .i64 bn',.string ⟨bs.toArray⟩,.slice bao (kidsOf rs[k].2.2).length bcap] 53:=⟨_,rfl⟩
   obtain⟨o2,ho2⟩:∃ o2,o2=Obj.cells #[.int .i64 pop,.int .i64 pn,.string ⟨ps.toArray⟩,.slice pao (kidsOf rs[k].2.1).length pcap,.int .i64 bop,.int .i64 bn',.string ⟨bs.toArray⟩,.slice bao (kidsOf rs[k].2.2).length bcap] 51:=⟨_,rfl⟩
   obtain⟨o3,ho3⟩:∃ o3,o3=Obj.cells #[.slice (some ⟨wr.heap.size+1,0,none⟩) 2 2] 49:=⟨_,rfl⟩
   have hA3:Below wr.heap.size wr (((wr.alloc o1).alloc o2).alloc o3):=(((Below.refl _ wr).alloc (Nat.le_refl _) _).alloc (by simp) _).alloc (by simp;omega) _;have e3:(((wr.alloc o1).alloc o2).alloc o3).heap[wr.heap.size+1+1]?=some o3:=by have:=heap_new ((wr.alloc o1).alloc o2) o3;simpa only [World.size_alloc] using this
   have e2:(((wr.alloc o1).alloc o2).alloc o3).heap[wr.heap.size+1]?=some o2:=by
    have:=heap_new (wr.alloc o1) o2
    simp only[World.size_alloc] at this
    rw[Below.heap_alloc _ _ _ (by simp),this]
   have hgw:∀ g',(Value.slice (some ⟨g,0,none⟩) rs.length cap).ownBlock=some g'→g'<wr.heap.size:=fun g' hg'=>by
    obtain⟨_,o,h1,_⟩:=hro g' hg'
    exact heap_lt ((hB.row g' hg').trans h1)
   have hcw:∀ b,Cellsy w b→(((wr.alloc o1).alloc o2).alloc o3).heap[b]?=w.heap[b]?:=fun b hb=>by
    have h1:=hB.old b hb
    obtain⟨cur,hc⟩:=hb
    exact (hA3.block b (heap_lt (h1.trans hc))).trans h1
   have hLv:Lv w W W.heap.size Sr' Sx (Value.slice (some ⟨g,0,none⟩) rs.length cap).ownBlock rs k J (deps [rs[k].2.1,rs[k].2.2]) (.slice (some ⟨wr.heap.size+1+1,0,none⟩) 1 1) (((wr.alloc o1).alloc o2).alloc o3):=by
    refine⟨[[rs[k].2.1,rs[k].2.2]],[.slice (some ⟨wr.heap.size+1,0,none⟩) 2 2],[.int .i64 pop,.int .i64 pn,.string ⟨ps.toArray⟩,.slice pao (kidsOf rs[k].2.1).length pcap,.int .i64 bop,.int .i64 bn',.string ⟨bs.toArray⟩,.slice bao (kidsOf rs[k].2.2).length bcap],fun b=>Sp b∨Sb b,pre,G,?_,?_,?_,?_,?_,?_,?_,?_,?_,by simp,?_,abide hJ hJp hA3⟩
    ·have hs:=hB.size
     exact⟨rfl,.inr ⟨_,1,_,rfl,by omega,by rw[e3,ho3],Nat.le_refl _,by unfold maxLen;omega,rfl,rfl⟩⟩
    ·exact⟨_,[],_,[],rfl,(List.append_nil _).symm,⟨rfl,.inr ⟨_,2,_,rfl,Nat.zero_le _,by rw[e2,ho2],Nat.le_refl _,by unfold maxLen;omega,rfl,rfl⟩⟩,rfl,rfl⟩
    ·refine⟨Sp,Sb,[.int .i64 pop,.int .i64 pn,.string ⟨ps.toArray⟩,.slice pao (kidsOf rs[k].2.1).length pcap],[.int .i64 bop,.int .i64 bn',.string ⟨bs.toArray⟩,.slice bao (kidsOf rs[k].2.2).length bcap],rfl,node_frame _ _ _ (fun b hb=>hcw b (hSr b (k1 b hb).1)) hp,?_,fun b hb=>⟨.inl hb,(k1 b hb).2.1⟩,fun b hb=>.inr hb⟩
     exact⟨Sb,fun _=>False,[.int .i64 bop,.int .i64 bn',.string ⟨bs.toArray⟩,.slice bao (kidsOf rs[k].2.2).length bcap],[],rfl,node_frame _ _ _ (fun b hb=>hcw b (hSr b (k2 b hb).1)) hbd,rfl,fun b hb=>⟨hb,id⟩,fun b hb=>hb.elim⟩
    ·intro l hl;simp at hl;subst hl;simp
    ·have:=cnt_siz rs[k].2.1
     have:=cnt_siz rs[k].2.2
     simp[cnts];omega
    ·intro t ht;simp at ht;rcases ht with rfl|rfl <;> omega
    ·intro b hb;rcases hb with hb|hb
     ·exact⟨hSr b (k1 b hb).1,(k1 b hb).2.2⟩
     ·exact⟨hSr b (k2 b hb).1,(k2 b hb).2⟩
    ·intro g' hg' hs;refine (hB.free g' hg').2 ?_;rcases hs with hs|hs
     ·exact (k1 g' hs).1
     ·exact (k2 g' hs).1
    ·exact (hB.less k3).below hS hgw hA3
    ·rw[hpre,hvt]
     rfl
   have bk:(k:Int)<rs.length:=by omega
   have hR2':∀ b,Sr' b→Cellsy w b:=fun b hb=>hSr b (k3 b hb)
   obtain⟨vq,hvq⟩:=visit_sub (rs:=rs) (k+1)
   subst ho1 ho2 ho3;clear hp hbd hx9 cc hR hSr k1 k2 k3 hszr hvt hki hx2 hpre hJp hB hA3 e3 e2 hgw hcw hc hB0 hJ0 h0 hbox' hmm hr ho hcy;generalize hpL:(kidsOf rs[k].2.1).length=pL at *;generalize hbL:(kidsOf rs[k].2.2).length=bL at *;generalize rs[k].1=kd at *
   gi_wp2
   gi_loopw [6] (fun lv wi=>∃ f,Lv w W W.heap.size Sr' Sx (Value.slice (some ⟨g,0,none⟩) rs.length cap).ownBlock rs k J f lv wi) (fun lv wi=>leastOf fun f=>Lv w W W.heap.size Sr' Sx (Value.slice (some ⟨g,0,none⟩) rs.length cap).ownBlock rs k J f lv wi)
   case atStart=>exact⟨_,hLv⟩
   case round =>
    clear hLv c0 c1 c2 c3 c4 c5 c6 c7 c8
    obtain⟨hlv,hmin⟩:=leastOf_spec hrel
    obtain⟨f,hf⟩:∃ f,f=leastOf fun f=>Lv w W W.heap.size Sr' Sx (Value.slice (some ⟨g,0,none⟩) rs.length cap).ownBlock rs k J f u6 wr:=⟨_,rfl⟩
    rw[← hf] at hlv
    obtain⟨ls,vs,xs,S,pre,G,h1,h2,h3,h4,h5,h6,h7,h8,hB,hd,hpre,hJp⟩:=hlv
    obtain⟨ao2,cap2,rfl⟩:=owns_slice h1
    have HF:Hid (f=leastOf fun f=>Lv w W W.heap.size Sr' Sx (Value.slice (some ⟨g,0,none⟩) rs.length cap).ownBlock rs k J f (.slice ao2 ls.length cap2) wr):=hf;clear hrel hmin hf
    by_cases hls:ls=[]
    ·subst hls;have hpre':pre.map Nde.key=visit 0 (rs.take (k+1)):=by rw[← hpre,bfs_nil];simp
     clear h1 h2 h3 h4 h5 h6 h7 h8 HF hpre hd
     gi_wp2
     exact⟨⟨k+1,hkl,by go_num,pre,G,Sr',hR2,hR2',hB,hpre',hJp⟩,by simp[intOf];omega⟩
    ·have hpos:0<ls.length:=List.length_pos_iff.2 hls;have hlf:=len_flat h4;have hfl:ls.flatten≠[]:=fun e=>by rw[e,List.length_nil] at hlf;omega
     obtain⟨f,rfl⟩:∃ f',f=f'+1:=⟨f - 1,by have:=deps_below hfl;omega⟩
     have hcl:=cnts_len ls.flatten;have hlI:(0:Int)<ls.length:=by omega
     have hlI2:(ls.length:Int)≤1048577:=by omega
     rw[bfs,List.map_append,← List.append_assoc] at hpre
     have hlv':=h1.lt
     obtain⟨w1,rfl⟩:∃ w1,w1=wr:=⟨_,rfl⟩
     obtain⟨gl,rfl,hgl,hcl2⟩:=row_cells h1 hpos
     have hnl:¬ Sx gl:=fun hs=>by have:=hS gl hs;have:=(hlv' gl rfl).1;omega
     gi_wp2
     gi_loopw [30] (fun i wi=>∃ q:Nat,q≤ls.length∧i=.int .i64 q∧∃ pre3:List (Nde w rs),pre3.map Nde.key=pre.map Nde.key++(ls.take q).flatten.map (fun t=>(k,t))∧Keep Sx w1 wi∧J pre3 wi) (fun i _=>ls.length - (intOf i).toNat)
     case atStart=>exact⟨0,Nat.zero_le _,rfl,pre,by simp,Keep.refl _ _,hJp⟩
     case round =>
      obtain⟨q,hq,rfl,pre3,hp3,hK3,hJ3⟩:=hrel
      by_cases hql:q<ls.length
      ·have hqi:ls[q]?=some ls[q]:=List.getElem?_eq_getElem hql
       obtain⟨v,c,S',hv,hrow,hN,hS'⟩:=rows_at h2 h3 hqi
       have hcell:wr.cell? ⟨gl,q,none⟩=some v:=by
        have a1:=hcl2 q v hv
        obtain⟨gx,cur,e,hb⟩:=owns_block h1 hpos
        simp at e;subst e;exact (World.cell?_of_block ((hK3.cells hnl hb).trans hb.symm)).trans a1
       obtain⟨l',hl'⟩:∃ l',l'=ls[q]:=⟨_,rfl⟩
       rw[← hl'] at hrow hN hqi
       have htk:(ls.take (q+1)).flatten=(ls.take q).flatten++l':=by rw[List.take_add_one,hqi,List.flatten_append];simp
       have hspl:ls.flatten=(ls.take q).flatten++(l'++(ls.drop (q+1)).flatten):=by
        have:=List.take_append_drop q ls
        rw[List.drop_eq_getElem_cons hql,← hl'] at this
        conv=>lhs;rw[← this]
        simp
       have hne':l'≠[]:=h4 l' (by rw[hl'];exact List.getElem_mem hql);have hpos':0<l'.length:=List.length_pos_iff.2 hne';have hll:l'.length≤1048577:=by
        have:=congrArg List.length hspl
        simp only[List.length_append] at this;omega
       obtain⟨ao3,cap3,rfl⟩:=owns_slice hrow
       obtain⟨gr,rfl,hgr,hcr⟩:=row_cells hrow hpos'
       obtain⟨gx,cur,e,hbr⟩:=owns_block hrow hpos'
       simp at e;subst e;have hlI3:(l'.length:Int)≤1048577:=by omega
       have bq:(q:Int)<ls.length:=by omega
       have HP3:Hid (pre3.map Nde.key=pre.map Nde.key++(ls.take q).flatten.map (fun t=>(k,t))):=hp3;clear hv hqi hl' hp3
       gi_wp2
       gi_loopw [36] (fun i wi=>∃ r:Nat,r≤l'.length∧i=.int .i64 r∧∃ pre4:List (Nde w rs),pre4.map Nde.key=pre.map Nde.key++((ls.take q).flatten++l'.take r).map (fun t=>(k,t))∧Keep Sx w1 wi∧J pre4 wi) (fun i _=>l'.length - (intOf i).toNat)
       case atStart=>exact⟨0,Nat.zero_le _,rfl,pre3,by rw[HP3.out];simp,hK3,hJ3⟩
       case round =>
        clear hcell hK3 hJ3 HP3
        obtain⟨r,hr,rfl,pre4,hp4,hK4,hJ4⟩:=hrel
        by_cases hrl:r<l'.length
        ·have hri:l'[r]?=some l'[r]:=List.getElem?_eq_getElem hrl
         obtain⟨S1,a,b,c',u,e1,e2,e3,e4,ht,hS1⟩:=nodes_at hN hri
         have cr:∀ j x,c[j]?=some x→wr.cell? ⟨gr,j,none⟩=some x:=fun j x hx=>(World.cell?_of_block (hK4.nodes hB.no ⟨cur,hbr⟩)).trans (hcr j x hx);have x0:=cr _ _ e1;have x1:=cr _ _ e2;have x2:=cr _ _ e3;have x3:=cr _ _ e4;have hmt:l'[r]∈ls.flatten:=by rw[hspl];simp
         have hSc:∀ b,S1 b→Cellsy w b:=fun b hb=>(h7 b (hS' b (hS1 b hb))).1;have hlen4:pre4.length<(visit 0 rs).length:=by
          have a1:=congrArg List.length hp4;have a2:=congrArg List.length hpre;have a3:=congrArg List.length hvq;have a4:=congrArg List.length hspl;simp only[List.length_map,List.length_append,List.length_take] at a1 a2 a3 a4;omega
         have hmem:(k,l'[r])∈visit 0 rs:=by
          rw[hvq,← hpre]
          simp only[List.mem_append,List.mem_map];exact .inl (.inl (.inr ⟨_,hmt,rfl⟩))
         obtain⟨x,hx⟩:∃ x:Nde w rs,x=⟨k,l'[r],a,b,c',u,S1,node_frame _ _ _ (fun b hb=>(hB.old b (hSc b hb)).symm) ht,hSc,h6 _ hmt,hmem⟩:=⟨_,rfl⟩
         have hkey:x.key=(k,l'[r]):=by rw[hx];rfl
         have henc:x.encs=#[.int .i64 k,.agg #[a,b,c',u]]:=by rw[hx];rfl
         obtain⟨op,nn,st,ao5,cap5,ys,-,rfl,rfl,rfl,rfl,-,-,-⟩:=node_form ht
         have htk4:l'.take (r+1)=l'.take r++[l'[r]]:=by rw[List.take_add_one,hri];rfl
         obtain⟨oN,hoN⟩:∃ oN,oN=Obj.cells #[.int .i64 op,.int .i64 nn,.string ⟨st.toArray⟩,.slice ao5 (kidsOf l'[r]).length cap5] 51:=⟨_,rfl⟩
         have hba:Below wr.heap.size wr (wr.alloc oN):=(Below.refl _ wr).alloc (Nat.le_refl _) _;have hS4:∀ k,Sx k→k<wr.heap.size:=fun k hk=>Nat.lt_of_lt_of_le (hS k hk) (Nat.le_trans hB.size hK4.size);have hKa:Keep Sx w1 (wr.alloc oN):=hK4.trans (Keep.below hS4 hba)
         obtain⟨fn,tmps,assign,body,hy,hRd⟩:=hY pre4 x (wr.alloc oN) (abide hJ hJ4 hba) hlen4
         rw[henc] at hy
         have HX:Hid (pre4.map Nde.key=pre.map Nde.key++((ls.take q).flatten++l'.take r).map (fun t=>(k,t))∧x.key=(k,l'[r])∧l'.take (r+1)=l'.take r++[l'[r]]):=⟨hp4,hkey,htk4⟩;have br:(r:Int)<l'.length:=by omega
         subst hoN;clear hp4 hkey htk4 hx henc e1 e2 e3 e4 ht hri cr hmem hlen4 hSc hmt hS4 hba;generalize (kidsOf l'[r]).length=L5 at *
         gi_wp2
         refine hRd.mono ?_;rintro e W3 (⟨rfl,hJ3',hk3⟩|⟨rfl,hJx3⟩)
         ·gi_wp2
          go_roundw
          case rel =>
           obtain⟨y1,y2,y3⟩:=HX.out
           exact⟨r+1,hrl,by go_num,pre4++[x],by rw[List.map_append,y1,y3];simp only[List.map_append,List.map_cons,List.map_nil,List.append_assoc,y2],hKa.trans hk3,hJ3'⟩
          case measure=>simp[intOf];omega
         ·gi_wp2
          refine bodyPost_ret (results_none rfl _ _ _) rfl ?_
          refine⟨⟨_,rfl⟩,.inr ⟨pre4++[x],?_,hJx3⟩⟩
          obtain⟨y1,y2,y3⟩:=HX.out
          rw[hvq,← hpre,List.map_append,y1,List.map_cons,List.map_nil,y2,hspl]
          refine⟨((l'.drop (r+1)++(ls.drop (q+1)).flatten).map fun t=>(k,t))++(bfs f (below ls)).map (fun t=>(k,t))++vq,?_⟩
          have y4:l'.map (fun t=>(k,t))=(l'.take r++[l'[r]]).map (fun t=>(k,t))++(l'.drop (r+1)).map fun t=>(k,t):=by
           rw[← List.map_append,← y3,List.take_append_drop]
          simp only[List.map_append,List.append_assoc,y4,List.map_cons,List.map_nil]
        ·obtain rfl:r=l'.length:=by omega
         rw[List.take_length] at hp4
         have hp5:pre4.map Nde.key=pre.map Nde.key++(ls.take (q+1)).flatten.map (fun t=>(k,t)):=by rw[hp4,htk]
         clear hp4
         gi_wp2
         exact⟨⟨q+1,hql,by go_num,pre4,hp5,hK4,hJ4⟩,by simp[intOf];omega⟩
      ·obtain rfl:q=ls.length:=by omega
       rw[List.take_length] at hp3
       have hB3:=hB.keep hS hro hK3;have hcy3:∀ g,Cellsy w1 g→wr.heap[g]?=w1.heap[g]?:=fun g hg=>hK3.nodes hB.no hg;have call:=iKidsBelowR (R:=fun b=>¬ (Cellsy w b∧¬ Sr' b)) (d:=1) (Nat.le_refl _) (by omega) (hK3.row h1 (fun g' hg'=>by simp[Value.ownBlock] at hg';subst hg';exact hnl)) (rows_frame hcy3 h2) (nodes_frame (fun b hb=>hcy3 b (hB.cy (h7 b hb).1)) h3) hB3.map (fun g' hg'=>hB3.cy (hB.free g' hg').1) h8 h5 h4 (fun b hb hn=>hn (h7 b hb)) (fun g' hg' hn=>hn (hB.free g' hg'));have hnext:∀ w4 v,Got wr w4 W.heap.size G.length (fun b=>¬ (Cellsy w b∧¬ Sr' b)) (below ls) v→Lv w W W.heap.size Sr' Sx (Value.slice (some ⟨g,0,none⟩) rs.length cap).ownBlock rs k J f v w4:=fun w4 v hG =>
        lv_next hJ hS hro hB3 hfl h5 h6 hd (by rw[hp3];exact hpre) hJ3 hG
       clear h1 h2 h3 h4 h5 h6 h7 h8 hpre hp3 hB3 hcy3 hcl2;have hfK:Fence.wide.fn 135:=trivial
       gi_wp2_with (gi_at_call 135;refine (callsIn_wide.2 call).mono ?_;rintro e w5 ⟨v,rfl,hG⟩)
       go_roundw
       case rel=>exact⟨f,hnext w5 v hG⟩
       case measure =>
        have:=(leastOf_spec (p:=fun f=>Lv w W W.heap.size Sr' Sx (Value.slice (some ⟨g,0,none⟩) rs.length cap).ownBlock rs k J f v w5) ⟨f,hnext w5 v hG⟩).2 f (hnext w5 v hG)
        have:=HF.out
        omega
  ·obtain rfl:k=rs.length:=by omega
   rw[List.take_length] at hpre
   gi_wp2
   go_end0
   exact⟨⟨_,rfl⟩,.inl ⟨pre,hpre,hJp⟩⟩

end Ck
namespace Ck
open Nd Ty

def SetIs (w:World)(b:Nat)(ns:List (List UInt8)):Prop:=w.ownsMap (H:=Unit) Tryz.prog 9 unitElem b ns.length (Maps.setOf (.agg []) (ns.map Lit.string))

theorem SetIs.lt {w:World}{b:Nat}{ns:List (List UInt8)}(h:SetIs w b ns):b<w.heap.size:=World.ownsMap.lt h
theorem SetIs.same {w w':World}{b:Nat}{ns:List (List UInt8)}(h:SetIs w b ns)(hb:w'.heap[b]?=w.heap[b]?):SetIs w' b ns:=by
 obtain⟨es,c,h1,h2⟩:=h
 exact⟨es,c,hb.trans h1,h2⟩
theorem SetIs.not {w:World}{b:Nat}{ns:List (List UInt8)}(h:SetIs w b ns):¬ Cellsy w b:=by
 obtain⟨es,c,h1,_⟩:=h
 rintro⟨cur,h2⟩
 rw[h1] at h2
 cases h2
theorem SetIs.made (w:World):SetIs (w.alloc (.map #[] 0)) w.heap.size []:=World.ownsMap_made w _ _ _

theorem key_of {s:List UInt8}(hs:s.length≤1048576):keyOf Tryz.prog 9 (.string ⟨s.toArray⟩)=some (.string s):=by
 have:=WideMaps.keyOf_string_mk (P:=Tryz.prog) (k:=9) Tryz.underlying9 (s:=⟨s.toArray⟩) (by show s.toArray.size≤maxLen;unfold maxLen;simp;omega)
 simpa using this

theorem set_snoc (ns:List (List UInt8))(s:List UInt8):(Maps.setOf (H:=Unit) (.agg []) (ns.map Lit.string)).put (.string s) (.agg [])=Maps.setOf (.agg []) ((ns++[s]).map Lit.string):=by rw[List.map_append,List.map_cons,List.map_nil,Maps.setOf_snoc]

set_option maxHeartbeats 1000000 in
set_option maxRecDepth 100000 in
theorem iTake {w:World}{bv bc:Nat}{vn cn:List (List UInt8)}{op n:Int}{s:List UInt8}{ao:Option Addr}{L cap:Nat}(hv:SetIs w bv vn)(hc:SetIs w bc cn)(hne:bv≠bc)(hs:s.length≤1048576)(hl:vn.length≤2500000)(hl2:cn.length≤2500000):
  Calls Tryz.prog 85 #[.agg #[.map (some bv),.map (some bc)],.agg #[.int .i64 op,.int .i64 n,.string ⟨s.toArray⟩,.slice ao L cap]] w fun e w'=>(∃ v,e=.returned v)∧SetIs w' bv (vn++varsT op s)∧SetIs w' bc (cn++cellsT op s)∧Fr (fun k=>k=bv∨k=bc) w w':=by
 obtain⟨o1,ho1⟩:∃ o1,o1=Obj.cells #[.map (some bv),.map (some bc)] 116:=⟨_,rfl⟩
 obtain⟨o2,ho2⟩:∃ o2,o2=Obj.cells #[.int .i64 op,.int .i64 n,.string ⟨s.toArray⟩,.slice ao L cap] 51:=⟨_,rfl⟩
 have hb:Below w.heap.size w ((w.alloc o1).alloc o2):=((Below.refl _ w).alloc (Nat.le_refl _) _).alloc (by simp) _;have hv2:SetIs ((w.alloc o1).alloc o2) bv vn:=hv.same (hb.block _ hv.lt);have hc2:SetIs ((w.alloc o1).alloc o2) bc cn:=hc.same (hb.block _ hc.lt);have hvl:=hv2.lt;have hcl:=hc2.lt;have hkey:=key_of hs;have hvn:=set_snoc vn s;have hcn:=set_snoc cn s;have hF0:Fr (fun k=>k=bv∨k=bc) w ((w.alloc o1).alloc o2):=fr_below hb;subst ho1 ho2
 by_cases h4:op=4
 ·subst h4
  go_enter Tryz.func85,Tryz.ntmps85
  go_wp2_with (at_mapUpdate;refine wpList_mapUpdate_own _ rfl _ _ _ 114 rfl 9 139 (Maps.string_keyed Tryz.underlying9) Tryz.underlying114 unitElem bv vn.length _ rfl hv2 (by unfold maxLen;omega) _ _ _ rfl rfl hkey _ [] unitElem_mk ?_;intro w1 hown1 hgrow1;rw[hvn] at hown1)
  go_end0
  refine⟨⟨_,rfl⟩,?_,?_,hF0.grown hgrow1 (fun k e=>.inr (.inl (by cases e;rfl)))⟩
  ·unfold SetIs varsT;rw[if_pos rfl,List.length_append];exact hown1
  ·unfold cellsT;rw[if_neg (by decide),List.append_nil];exact hc2.same (hgrow1.block bc hcl (fun e=>hne (by cases e;rfl)))
 ·by_cases h5:op=5∨op=34
  ·have e1:varsT op s=[]:=by unfold varsT;rw[if_neg h4]
   have e2:cellsT op s=[s]:=by unfold cellsT;rw[if_pos h5]
   have HE:Hid (varsT op s=[]∧cellsT op s=[s]):=⟨e1,e2⟩;clear e1 e2;rcases h5 with rfl|rfl
   all_goals
    go_enter Tryz.func85,Tryz.ntmps85
    go_wp2_with (at_mapUpdate;refine wpList_mapUpdate_own _ rfl _ _ _ 114 rfl 9 139 (Maps.string_keyed Tryz.underlying9) Tryz.underlying114 unitElem bc cn.length _ rfl hc2 (by unfold maxLen;omega) _ _ _ rfl rfl hkey _ [] unitElem_mk ?_;intro w1 hown1 hgrow1;rw[hcn] at hown1)
    go_end0
    refine⟨⟨_,rfl⟩,?_,?_,hF0.grown hgrow1 (fun k e=>.inr (.inr (by cases e;rfl)))⟩
    ·rw[HE.out.1,List.append_nil];exact hv2.same (hgrow1.block bv hvl (fun e=>hne (by cases e;rfl)))
    ·rw[HE.out.2];unfold SetIs;rw[List.length_append];exact hown1
  ·have e1:varsT op s=[]:=by unfold varsT;rw[if_neg h4]
   have e2:cellsT op s=[]:=by unfold cellsT;rw[if_neg h5]
   have HE:Hid (varsT op s=[]∧cellsT op s=[]):=⟨e1,e2⟩;simp only[not_or] at h5
   obtain⟨h5,h6⟩:=h5
   clear e1 e2
   go_enter Tryz.func85,Tryz.ntmps85
   go_wp2_with fail
   all_goals (try (go_end0;exact⟨⟨_,rfl⟩,by rw[HE.out.1,List.append_nil];exact hv2,by rw[HE.out.2,List.append_nil];exact hc2,hF0⟩))

end Ck
namespace Ck
open Nd Ty
attribute [local go_sem] Oper.semAt_some

theorem iNewKinds (w:World):Calls Tryz.prog 83 #[] w fun e w'=>e=.returned (.agg #[.map (some (w.heap.size+1)),.map (some (w.heap.size+2))])∧SetIs w' (w.heap.size+1) []∧SetIs w' (w.heap.size+2) []∧w'.heap.size=w.heap.size+3∧Below w.heap.size w w':=by
 obtain⟨o1,ho1⟩:∃ o1,o1=Obj.cells #[.map (some (w.heap.size+1)),.map (some (w.heap.size+1+1))] 116:=⟨_,rfl⟩
 have hmm:=@run_makeMap Tryz.prog;have hW:Below w.heap.size w (((w.alloc o1).alloc (.map #[] 0)).alloc (.map #[] 0)):=(((Below.refl _ w).alloc (Nat.le_refl _) _).alloc (by simp) _).alloc (by simp;omega) _;have s1:SetIs (((w.alloc o1).alloc (.map #[] 0)).alloc (.map #[] 0)) (w.heap.size+1) []:=by
  have:=SetIs.made (w.alloc o1)
  rw[World.size_alloc] at this
  exact this.same (Below.heap_alloc _ _ _ this.lt)
 have s2:SetIs (((w.alloc o1).alloc (.map #[] 0)).alloc (.map #[] 0)) (w.heap.size+2) []:=by
  have:=SetIs.made ((w.alloc o1).alloc (.map #[] 0))
  rwa [World.size_alloc,World.size_alloc] at this
 have hh:(((w.alloc o1).alloc (.map #[] 0)).alloc (.map #[] 0)).heap[w.heap.size]?=some o1:=by
  rw[Below.heap_alloc _ _ _ (by simp;omega),Below.heap_alloc _ _ _ (by simp)]
  exact heap_new w o1
 have c0:(((w.alloc o1).alloc (.map #[] 0)).alloc (.map #[] 0)).cell? ⟨w.heap.size,0,none⟩=some (.map (some (w.heap.size+1))):=by unfold World.cell?;simp only[hh];rw[ho1];rfl
 have c1:(((w.alloc o1).alloc (.map #[] 0)).alloc (.map #[] 0)).cell? ⟨w.heap.size,1,none⟩=some (.map (some (w.heap.size+1+1))):=by unfold World.cell?;simp only[hh];rw[ho1];rfl
 subst ho1;clear hh
 go_enter Tryz.func83,Tryz.ntmps83
 go_wp2_with fail;refine bodyPost_ret (v:=.agg #[.map (some (w.heap.size+1)),.map (some (w.heap.size+1+1))]) (by simp[results,Tryz.results83,go_sem,c0,c1]) rfl ⟨rfl,s1,s2,by simp,hW⟩

theorem iEachNode (w:World)(ao:Option Addr)(n cap:Nat):Calls Tryz.prog 97 #[.slice ao n cap] w fun e w'=>e=.returned (.func (.func 134) #[] #[.pointer (some ⟨w.heap.size,0,none⟩)])∧w'=w.alloc (.cells #[.slice ao n cap] 30):=by
 go_enter Tryz.func97,Tryz.ntmps97
 go_wp2_with fail;go_ret
 exact⟨rfl,rfl⟩

def Has (W0:World)(bv bc:Nat){rs:List Ru}(pre:List (Nde W0 rs))(W:World):Prop :=
 SetIs W bv (varsIn (pre.map Nde.t))∧SetIs W bc (cellsIn (pre.map Nde.t))∧Fr (fun k=>k=bv∨k=bc) W0 W
theorem has_own {W0:World}{bv bc:Nat}{rs:List Ru}(hv:bv<W0.heap.size)(hc:bc<W0.heap.size):OwnFrom W0.heap.size (Has W0 bv bc (rs:=rs)):=by
 intro s A B row ⟨h1,h2,h3⟩ hg hr;have h4:=h3.size
 exact⟨h1.same (hg.block bv (by omega) fun e=>by have:=(hr bv e.symm).1;omega),h2.same (hg.block bc (by omega) fun e=>by have:=(hr bc e.symm).1;omega),h3.grown hg fun k e=>.inl (hr k e).1⟩
theorem vars_snoc {W0:World}{rs:List Ru}(pre:List (Nde W0 rs))(x:Nde W0 rs):varsIn ((pre++[x]).map Nde.t)=varsIn (pre.map Nde.t)++varsT (opOf x.t) (txtOf x.t):=by rw[List.map_append,varsIn_append,List.map_cons,List.map_nil,varsIn_one]
theorem cells_snoc {W0:World}{rs:List Ru}(pre:List (Nde W0 rs))(x:Nde W0 rs):cellsIn ((pre++[x]).map Nde.t)=cellsIn (pre.map Nde.t)++cellsT (opOf x.t) (txtOf x.t):=by rw[List.map_append,cellsIn_append,List.map_cons,List.map_nil,cellsIn_one]

theorem visit_len:∀ (k:Nat) (rs:List Ru),(visit k rs).length≤2*sizR rs
 | k,[]=>by simp[visit]
 | k,r::rs=>by
  have:=visit_len (k+1) rs
  have h1:=bfs_len (deps [r.2.1,r.2.2]) [[r.2.1,r.2.2]]
  have:=cnt_siz r.2.1
  have:=cnt_siz r.2.2
  simp only[visit,order,List.length_append,List.length_map,sizR,List.flatten_cons,List.flatten_nil,List.append_nil,cnts] at h1 ⊢;omega

end Ck
namespace Pg
open St (Vl RdV)
open Oc (hold heap_new Blk)

set_option maxRecDepth 100000 in
theorem iCellNumber {vars cells:List ByteArray}{va ca:Option Addr}{vc cc:Nat}{w:World}(hC:RdT w ca cells)(hn:cells.length≤1048576)(s:ByteArray):
  Calls Tryz.prog 107 #[.agg #[.slice va vars.length vc,.slice ca cells.length cc],.string s] w fun e w'=>e=.returned (.int .i64 (idx cells s))∧Below w.heap.size w w':=by
 have b0:∀ o,Below w.heap.size w (w.alloc o):=fun o=>(Below.refl _ w).alloc (Nat.le_refl _) o;have CI:Hid (∀ o,Calls Tryz.prog 149 #[.slice ca cells.length cc,.string s] (w.alloc o) fun e w'=>e=.returned (.int .i64 (idx cells s))∧w'=w.alloc o):=fun o=>iIndex (hC.below (b0 o)) hn s;clear hC hn
 go_enter Tryz.func107,Tryz.ntmps107
 go_wp2_with (go_at_call 149;refine Calls.mono (CI.out _) ?_;rintro e w2 ⟨rfl,rfl⟩)
 go_ret
 exact⟨rfl,b0 _⟩

theorem enterFree (vs:Array Value)(w:World):(callFunc 106 vs).run Tryz.prog w=.ok (.enter 106 vs) w:=by kernel_rfl

set_option maxRecDepth 100000 in
theorem iFree {vars cells:List ByteArray}{va ca:Option Addr}{vc cc B:Nat}{w:World}(hK:Blk 61 w B [.slice va vars.length vc,.slice ca cells.length cc])(hC:RdT w ca cells)(hn:cells.length≤1048576)(s:ByteArray):
  Calls Tryz.prog 106 #[.string s,.pointer (some ⟨B,0,none⟩)] w fun e w'=>e=.returned (.bool (freeOf cells s))∧Below w.heap.size w w':=by
 have x0:=hK.cell 0 rfl;have x1:=hK.cell 1 rfl;have HI:Hid (decide (idx cells s<0)=freeOf cells s):=idx_neg cells s;have CI:=iCellNumber (vars:=vars) (va:=va) (vc:=vc) (cc:=cc) hC hn s;clear hC hn hK;generalize idx cells s=z at *
 go_enter Tryz.func106,Tryz.ntmps106
 go_wp2_with (go_at_call 107;refine Calls.mono CI ?_;rintro e w2 ⟨rfl,hb2⟩)
 go_ret
 exact⟨by rw[← HI.out];rfl,hb2⟩

set_option maxRecDepth 100000 in
theorem iAreRight {vars cells:List ByteArray}{va ca:Option Addr}{vc cc:Nat}{w:World}(hV:RdT w va vars)(hC:RdT w ca cells)(hsv:∀ s∈vars,SmT s)(hsc:∀ s∈cells,SmT s)(hnv:vars.length≤1048576)(hn:cells.length≤1048576):
  Calls Tryz.prog 60 #[.agg #[.slice va vars.length vc,.slice ca cells.length cc]] w fun e w'=>e=.returned (.bool (listsB vars cells))∧Below w.heap.size w w':=by
 have b0:∀ o,Below w.heap.size w (w.alloc o):=fun o=>(Below.refl _ w).alloc (Nat.le_refl _) o;have HB0:Hid (∀ o,Below w.heap.size w (w.alloc o)):=b0
 obtain⟨o0,ho0⟩:∃ o0,o0=Obj.cells #[.slice va vars.length vc,.slice ca cells.length cc] 61:=⟨_,rfl⟩
 have KS:Hid (Blk 61 (w.alloc o0) w.heap.size [.slice va vars.length vc,.slice ca cells.length cc]):=by rw[ho0];exact Blk.new _ _ _
 have CV:Hid (Calls Tryz.prog 104 #[.slice va vars.length vc] (w.alloc o0) fun e w'=>e=.returned (.bool (namesB vars))∧Below (w.alloc o0).heap.size (w.alloc o0) w'):=iIsNameList (hV.below (b0 _)) hsv hnv;have CC:Hid (∀ w',Below w.heap.size w w'→Calls Tryz.prog 104 #[.slice ca cells.length cc] w' fun e w''=>e=.returned (.bool (namesB cells))∧Below w'.heap.size w' w''):=fun w' h=>iIsNameList (hC.below h) hsc hn;have CA:Hid (∀ w',Below w.heap.size w w'→Blk 61 w' w.heap.size [.slice va vars.length vc,.slice ca cells.length cc]→Calls Tryz.prog 105 #[.slice va vars.length vc,.func (.func 106) #[] #[.pointer (some ⟨w.heap.size,0,none⟩)]] w' fun e w''=>e=.returned (.bool (vars.all (freeOf cells)))∧Below w'.heap.size w' w''):=fun w' h hK =>
  iAreAllT (fc:=#[.pointer (some ⟨w.heap.size,0,none⟩)]) (fun s _ w'' h''=>iFree (hK.below h'') ((hC.below h).below h'') hn s) enterFree (by omega) va vc (hV.below h)
 obtain⟨R,hR⟩:∃ R,R=listsB vars cells:=⟨_,rfl⟩
 have HR:Hid (R=(namesB vars&&(namesB cells&&vars.all (freeOf cells)))):=hR
 rw[← hR]
 clear hR hV hC hsv hsc hnv hn b0;subst ho0;generalize namesB vars=V at *;generalize namesB cells=C at *;generalize vars.all (freeOf cells)=F at *
 cases V with
 | false =>
  clear CC CA KS
  go_enter Tryz.func60,Tryz.ntmps60
  go_wp2_with (go_at_call 104;refine Calls.mono CV.out ?_;rintro e w2 ⟨rfl,hb2⟩)
  go_ret
  exact⟨by rw[HR.out];rfl,(HB0.out _).trans (hb2.mono (HB0.out _).size)⟩
 | true =>
  go_enter Tryz.func60,Tryz.ntmps60
  go_wp2_with (go_at_call 104;refine hold ?_)
  refine Calls.mono CV.out ?_;rintro e w2 ⟨rfl,hb2⟩;have B2:=(HB0.out _).trans (hb2.mono (HB0.out _).size);have K2:=KS.out.below hb2;have x0:=K2.cell 0 rfl;have x1:=K2.cell 1 rfl;have HK2:Hid (Below w.heap.size w w2∧Blk 61 w2 w.heap.size [.slice va vars.length vc,.slice ca cells.length cc]):=⟨B2,K2⟩;clear B2 K2 hb2 KS CV
  go_wp2_with (go_at_call 104;refine hold ?_)
  refine Calls.mono (CC.out _ HK2.out.1) ?_;rintro e w3 ⟨rfl,hb3⟩;have B3:=HK2.out.1.trans (hb3.mono HK2.out.1.size);have K3:=HK2.out.2.below hb3;clear x0 x1;have x0:=K3.cell 0 rfl;have x1:=K3.cell 1 rfl;have HK3:Hid (Below w.heap.size w w3∧Blk 61 w3 w.heap.size [.slice va vars.length vc,.slice ca cells.length cc]):=⟨B3,K3⟩;clear B3 K3 hb3 HK2 CC HB0
  cases C with
  | false =>
   go_wp2_with fail;go_ret
   exact⟨by rw[HR.out];rfl,HK3.out.1⟩
  | true =>
   go_wp2_with (go_at_call 105;refine hold ?_)
   refine Calls.mono (CA.out _ HK3.out.1 HK3.out.2) ?_;rintro e w4 ⟨rfl,hb4⟩;go_wp2_with fail;go_ret
   exact⟨by rw[HR.out];rfl,HK3.out.1.trans (hb4.mono HK3.out.1.size)⟩

set_option maxHeartbeats 1000000 in
set_option maxRecDepth 100000 in
theorem iProgOk {P:ByteArray→Bool}(hP:Oc.ParseI P){vars cells:List ByteArray}{st mn:List Vl}{va ca sa ma:Option Addr}{vc cc sc mc:Nat}{a b:Addr}{w:World}(hS:Oc.Sn w a b)(hV:RdT w va vars)(hC:RdT w ca cells)(hT:RdV w sa st)(hM:RdV w ma mn)(hsv:∀ s∈vars,SmT s)(hsc:∀ s∈cells,SmT s)(hst:∀ v∈st,Oc.SmV v)(hsm:∀ v∈mn,Oc.SmV v)(hnv:vars.length≤1048576)(hn:cells.length≤1048576)(hns:st.length≤1048576)(hnm:mn.length≤1048576):
  Calls Tryz.prog 24 #[.agg #[.slice va vars.length vc,.slice ca cells.length cc,.slice sa st.length sc,.slice ma mn.length mc]] w fun e w'=>e=.returned (.bool (progB P vars cells st mn))∧Below w.heap.size w w':=by
 have CR:Hid (∀ w',Below w.heap.size w w'→Calls Tryz.prog 60 #[.agg #[.slice va vars.length vc,.slice ca cells.length cc]] w' fun e w''=>e=.returned (.bool (listsB vars cells))∧Below w'.heap.size w' w''):=fun w' h=>iAreRight (hV.below h) (hC.below h) hsv hsc hnv hn;have CS:Hid (∀ w',Below w.heap.size w w'→Calls Tryz.prog 61 #[.slice sa st.length sc,.int .i64 vars.length,.int .i64 cells.length] w' fun e w''=>e=.returned (.bool (Oc.opsB P st vars.length cells.length))∧Below w'.heap.size w' w''):=fun w' h=>Oc.iOpsOk hP (hT.below h) hns hst (hS.below h);have CM:Hid (∀ w',Below w.heap.size w w'→Calls Tryz.prog 61 #[.slice ma mn.length mc,.int .i64 vars.length,.int .i64 cells.length] w' fun e w''=>e=.returned (.bool (Oc.opsB P mn vars.length cells.length))∧Below w'.heap.size w' w''):=fun w' h=>Oc.iOpsOk hP (hM.below h) hnm hsm (hS.below h)
 obtain⟨R,hR⟩:∃ R,R=progB P vars cells st mn:=⟨_,rfl⟩
 have HR:Hid (R=(listsB vars cells&&(Oc.opsB P st vars.length cells.length&&Oc.opsB P mn vars.length cells.length))):=hR
 rw[← hR]
 clear hR hV hC hsv hsc hT hM hst hsm hS hP;have bv:(vars.length:Int)≤1048576:=by omega
 have bc:(cells.length:Int)≤1048576:=by omega
 generalize listsB vars cells=V at *;generalize Oc.opsB P st vars.length cells.length=C at *;generalize Oc.opsB P mn vars.length cells.length=F at *
 obtain⟨W1,hW1⟩:∃ W1,W1=(w.alloc (.cells #[.slice va vars.length vc,.slice ca cells.length cc,.slice sa st.length sc,.slice ma mn.length mc] 27)).alloc (.cells #[.slice va vars.length vc,.slice ca cells.length cc] 61):=⟨_,rfl⟩
 have HK1:Hid (Below w.heap.size w W1∧Blk 27 W1 w.heap.size [.slice va vars.length vc,.slice ca cells.length cc,.slice sa st.length sc,.slice ma mn.length mc]):=by
  rw[hW1]
  exact⟨((Below.refl _ w).alloc (Nat.le_refl _) _).alloc (by simp) _,(Blk.new 27 w [.slice va vars.length vc,.slice ca cells.length cc,.slice sa st.length sc,.slice ma mn.length mc]).alloc _⟩
 go_enter Tryz.func24,Tryz.ntmps24
 go_wp2_with (go_at_call 60;refine hold ?_)
 rw[← hW1]
 clear hW1;refine Calls.mono (CR.out _ HK1.out.1) ?_;rintro e w2 ⟨rfl,hb2⟩;have B2:=HK1.out.1.trans (hb2.mono HK1.out.1.size);have K2:=HK1.out.2.below hb2;have x0:=K2.cell 0 rfl;have x1:=K2.cell 1 rfl;have x2:=K2.cell 2 rfl;have x3:=K2.cell 3 rfl;have HK2:Hid (Below w.heap.size w w2∧Blk 27 w2 w.heap.size [.slice va vars.length vc,.slice ca cells.length cc,.slice sa st.length sc,.slice ma mn.length mc]):=⟨B2,K2⟩;clear B2 K2 hb2 HK1 CR
 cases V with
 | false =>
  go_wp2_with fail;go_ret
  exact⟨by rw[HR.out];rfl,HK2.out.1⟩
 | true =>
  go_wp2_with (go_at_call 61;refine hold ?_)
  refine Calls.mono (CS.out _ HK2.out.1) ?_;rintro e w3 ⟨rfl,hb3⟩;have B3:=HK2.out.1.trans (hb3.mono HK2.out.1.size);have K3:=HK2.out.2.below hb3;clear x0 x1 x2 x3;have x0:=K3.cell 0 rfl;have x1:=K3.cell 1 rfl;have x2:=K3.cell 2 rfl;have x3:=K3.cell 3 rfl;have HK3:Hid (Below w.heap.size w w3):=B3;clear B3 K3 hb3 HK2 CS
  cases C with
  | false =>
   go_wp2_with fail;go_ret
   exact⟨by rw[HR.out];rfl,HK3.out⟩
  | true =>
   go_wp2_with (go_at_call 61;refine hold ?_)
   refine Calls.mono (CM.out _ HK3.out) ?_;rintro e w4 ⟨rfl,hb4⟩;go_wp2_with fail;go_ret
   exact⟨by rw[HR.out];rfl,HK3.out.trans (hb4.mono HK3.out.size)⟩

end Pg
end Go.Proofs.YtllbachngocmnaaGreatDoor
