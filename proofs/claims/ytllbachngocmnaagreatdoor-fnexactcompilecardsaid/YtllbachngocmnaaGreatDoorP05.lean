/-
  A block: gone over once.
-/
import Derived.Test.YtllbachngocmnaaGreatDoorP04
namespace Go.Proofs.YtllbachngocmnaaGreatDoor
open Go.RowKit
namespace Cm
open St (Vl encV)
open Nd Ty
open Oc (hold Blk)
theorem run_unseenT {w:World}{m:Nat}{G:List Nat}(h:MapIs w m G)(hG:∀ g∈G,Cellsy w g){g:Nat}(n:Int)(hg:Cellsy w g)(hn:g∉G):(Instr.lookup 88 (.map (some m)) (keyV g n) true).run Tryz.prog w=.ok (.tuple #[.agg #[.int .i64 0,.int .i64 0],.bool false]) w:=by
 obtain⟨es,c,h1,h2,h3⟩:=h
 have hf:=run_find w (n:=n) hg es.toList fun e he=>by
  obtain⟨g',n',e1,e2⟩:=h3 e he
  exact⟨g',n',e1,fun e=>hn (e ▸ e2),hG g' e2⟩
 unfold Instr.lookup
 rw[Sem.run_bind,run_underlying Tryz.underlying88 w]
 simp[MapKept.run_getObj_map h1,run_checkKey,hf]
theorem run_putT {w:World}{m:Nat}{G:List Nat}(h:MapIs w m G)(hG:∀ g∈G,Cellsy w g){g:Nat}(n d d':Int)(hg:Cellsy w g)(hn:g∉G):
  ∃ w',(Instr.mapUpdate 88 (.map (some m)) (keyV g n) (.agg #[.int .i64 d,.int .i64 d'])).run Tryz.prog w=.ok () w'∧MapIs w' m (G++[g])∧w.grownBy w' (some m)∧w'.heap.size=w.heap.size:=by
 have hlt:=h.lt
 obtain⟨es,c,h1,h2,h3⟩:=h
 have hf:=run_find w (n:=n) hg es.toList fun e he=>by
  obtain⟨g',n',e1,e2⟩:=h3 e he
  exact⟨g',n',e1,fun e=>hn (e ▸ e2),hG g' e2⟩
 refine⟨{ w with heap:=w.heap.set! m (.map (es.push { key:=keyV g n,val:=.agg #[.int .i64 d,.int .i64 d'],born:=c }) (c+1)) },?_,?_,?_,?_⟩
 ·unfold Instr.mapUpdate
  rw[Sem.run_bind,run_underlying Tryz.underlying88 w]
  simp[MapKept.run_getObj_map h1,run_checkKey,hf,MapKept.run_setObj_map _ h1]
 ·refine⟨es.push { key:=keyV g n,val:=.agg #[.int .i64 d,.int .i64 d'],born:=c },c+1,?_,by simp[h2],fun e he=>?_⟩
  ·simp[hlt]
  ·simp at he;rcases he with he|rfl
   ·obtain⟨g',n',e1,e2⟩:=h3 e (by simpa using he)
    exact⟨g',n',e1,by simp[e2]⟩
   ·exact⟨g,n,rfl,by simp⟩
 ·refine⟨rfl,rfl,rfl,by simp,fun k hk hne=>?_⟩
  have:m≠k:=fun e=>hne (by rw[e])
  simp[this]
 ·simp
theorem cellsy_below {W w:World}{g:Nat}(h:Cellsy W g)(hb:Below W.heap.size W w):Cellsy w g:=by
 obtain⟨cur,hc⟩:=h
 exact⟨cur,(hb.block g (heap_lt hc)).trans hc⟩
theorem Wk.mapped {X:Fx}{ls:List Vl}{G:List Nat}{w w':World}(h:Wk X ls G w){g:Nat}(hg:Cellsy X.W g)(hm:MapIs w' X.m (G++[g]))(hw:w.grownBy w' (some X.m)):Wk X ls (G++[g]) w'∧Ch X w w':=by
 obtain⟨ao,cap,h1,h2⟩:=h.blk
 have hpm:X.p≠X.m:=blk_map h1 h.map;have hpb:w'.heap[X.p]?=w.heap[X.p]?:=hw.block X.p h1.lt (by simpa using hpm)
 refine⟨⟨?_,h.hp,h.hm,⟨ao,cap,hpb.trans h1,owns_same h2 fun k hk=>hw.block k (h2.lt k hk).2 ?_⟩,hm,fun k hk=>?_,h.vs,h.cs,h.vn,h.cn,h.err,h.len⟩,⟨hw.size,fun k k1 k2 k3 k4=>⟨hw.block k k1 (by simpa using k3),fun hr=>k4 ((rowAt_same hpb).1 hr)⟩⟩⟩
 ·exact⟨hw.os.trans h.below.os,hw.tape.trans h.below.tape,hw.output.trans h.below.output,Nat.le_trans h.below.size hw.size,fun k hk=>(hw.block k (Nat.lt_of_lt_of_le hk h.below.size) (by have:=h.hm;intro e;simp at e;omega)).trans (h.below.block k hk)⟩
 ·intro e;simp at e;exact row_map h.map h2 (e ▸ hk) rfl
 ·rcases List.mem_append.1 hk with hk|hk
  ·exact h.hG k hk
  ·simp at hk;exact hk ▸ hg

set_option maxHeartbeats 2000000 in
set_option maxRecDepth 100000 in
theorem iBlock {X:Fx}{t:Data}(hk:NodesOk X (kidsOf t))(hn:(kidsOf t).length≤1048577):BlockOk X t:=by
 intro ls G w S a b c u hW hN hG
 obtain⟨ao,cap,rfl,rfl,rfl,rfl⟩:=node_vals hN
 obtain⟨xs,hrow,hown,hkids⟩:∃ xs,X.W.ownsRow 0 51 4 (.slice ao (kidsOf t).length cap) (kidsOf t).length xs∧(∀ g,Value.ownBlock (.slice ao (kidsOf t).length cap)=some g→S g)∧NodesIs X.W (kidsOf t) (fun k=>S k∧Value.ownBlock (.slice ao (kidsOf t).length cap)≠some k) xs:=by
  obtain⟨op,n,s,ks,rfl⟩:=node_node hN
  obtain⟨ao',cap',xs,he,q1,q2,q3⟩:=node_parts hN
  simp[kids_nd] at he
  obtain⟨rfl,rfl⟩:=he.2.2.2
  exact⟨xs,q1,q2,q3⟩
 have bn:((kidsOf t).length:Int)≤1048577:=by omega
 clear hn
 by_cases h0:kidsOf t=[]
 ·have hl0:(kidsOf t).length=0:=by rw[h0];rfl
  have HA:Hid (RanS X (ls++seqOf X.iv X.ic (kidsOf t) ls.length) G S w (.returned (.tuple #[])) (w.alloc (.cells #[.int .i64 (opOf t),.int .i64 (numOf t),.string ⟨(txtOf t).toArray⟩,.slice ao (kidsOf t).length cap] 51))):=by
   rw[h0,seqOf_nil]
   exact ((at_none hW hG (R:=S) (fun _ h=>h)).later ((Below.refl _ w).alloc (Nat.le_refl _) _)).ends (by simp)
  rw[hl0] at HA ⊢
  clear hW hN hG hk hrow hown hkids
  go_enter Tryz.func100,Tryz.ntmps100
  go_wp2_with fail
  first
   | (refine bodyPost_ret (v:=.tuple #[]) ?_ rfl HA.out;simp[results,Tryz.results100])
   | (refine bodyPost_end (v:=.tuple #[]) ?_ rfl HA.out;simp[results,Tryz.results100])
 ·have hpos:0<(kidsOf t).length:=List.length_pos_iff.2 h0
  obtain⟨g,cur,e,hg⟩:=owns_block hrow hpos
  subst e;have hcy:Cellsy X.W g:=⟨cur,hg⟩;have hSg:S g:=hown g rfl;have hgG:g∉G:=fun h=>hG g h hSg;have hne:¬ ((kidsOf t).length:Int)=0:=by omega
  have hposI:(0:Int)<(kidsOf t).length:=by omega
  obtain⟨Wb,hWb⟩:∃ Wb,Wb=((w.alloc (.cells #[.int .i64 (opOf t),.int .i64 (numOf t),.string ⟨(txtOf t).toArray⟩,.slice (some ⟨g,0,none⟩) (kidsOf t).length cap] 51)).alloc (.cells #[.pointer (some ⟨g,0,none⟩),.int .i64 (kidsOf t).length] 195)).drew:=⟨_,rfl⟩
  have HT:Hid (∀ k,(S k∧Value.ownBlock (.slice (some ⟨g,0,none⟩) (kidsOf t).length cap)≠some k)→S k∧S k∧¬ (k=g)):=fun k hk=>⟨hk.1,hk.1,fun e=>hk.2 (by rw[e];rfl)⟩;have HB:Hid (At X w [(w.heap.size+1,195,[.pointer (some ⟨g,0,none⟩),.int .i64 (kidsOf t).length]),(w.heap.size,51,[.int .i64 (opOf t),.int .i64 (numOf t),.string ⟨(txtOf t).toArray⟩,.slice (some ⟨g,0,none⟩) (kidsOf t).length cap])] G S S ls Wb):=by
   have:=((at_none hW hG (R:=S) (fun _ h=>h)).more 51 [.int .i64 (opOf t),.int .i64 (numOf t),.string ⟨(txtOf t).toArray⟩,.slice (some ⟨g,0,none⟩) (kidsOf t).length cap]).more 195 [.pointer (some ⟨g,0,none⟩),.int .i64 (kidsOf t).length]
   rw[World.size_alloc] at this
   rw[hWb]
   exact this.later (Below.refl _ _).drew
  have l1:(Instr.lookup 88 (.map (some X.m)) (.agg #[.pointer (some ⟨g,0,none⟩),.int .i64 (kidsOf t).length]) true).run Tryz.prog Wb.drew=.ok (.tuple #[.agg #[.int .i64 0,.int .i64 0],.bool false]) Wb.drew:=by
   obtain⟨G',k1,k2,k3,k4⟩:=HB.out.later (Below.refl _ Wb).drew
   exact run_unseenT k2.map (fun q hq=>cellsy_below (k2.hG q hq) k2.below) _ (cellsy_below hcy k2.below) fun h=>(k1 g h).2 hSg
  have l2:∀ o,(Instr.lookup 88 (.map (some X.m)) (.agg #[.pointer (some ⟨g,0,none⟩),.int .i64 (kidsOf t).length]) true).run Tryz.prog (Wb.alloc o).drew=.ok (.tuple #[.agg #[.int .i64 0,.int .i64 0],.bool false]) (Wb.alloc o).drew:=fun o=>by
   obtain⟨G',k1,k2,k3,k4⟩:=HB.out.later ((Below.refl _ Wb).alloc (Nat.le_refl _) o).drew
   exact run_unseenT k2.map (fun q hq=>cellsy_below (k2.hG q hq) k2.below) _ (cellsy_below hcy k2.below) fun h=>(k1 g h).2 hSg
  have q2:∃ aoP capP,Wb.cell? ⟨X.p,2,none⟩=some (.slice aoP ls.length capP)∧Wb.cell? ⟨X.p,3,none⟩=some (.map (some X.m)):=by
   obtain⟨G',k1,k2,k3,k4⟩:=HB.out
   obtain⟨ao,cap,k5,_⟩:=k2.blk
   exact⟨ao,cap,k5.cell 2 rfl,k5.cell 3 rfl⟩
  obtain⟨aoP,capP,q2,q3⟩:=q2
  have hls:(ls.length:Int)≤1500:=by have:=hW.len;omega
  have b0:=HB.out.box (b:=(w.heap.size+1,195,[.pointer (some ⟨g,0,none⟩),.int .i64 (kidsOf t).length])) (by simp) 0 rfl;have b1:=HB.out.box (b:=(w.heap.size+1,195,[.pointer (some ⟨g,0,none⟩),.int .i64 (kidsOf t).length])) (by simp) 1 rfl;have b2:=HB.out.box (b:=(w.heap.size,51,[.int .i64 (opOf t),.int .i64 (numOf t),.string ⟨(txtOf t).toArray⟩,.slice (some ⟨g,0,none⟩) (kidsOf t).length cap])) (by simp) 3 rfl;have ha:=fun o=>HB.out.later ((Below.refl _ Wb).alloc (Nat.le_refl _) o);have b0':=fun o=>(ha o).box (b:=(w.heap.size+1,195,[.pointer (some ⟨g,0,none⟩),.int .i64 (kidsOf t).length])) (by simp) 0 rfl;have b1':=fun o=>(ha o).box (b:=(w.heap.size+1,195,[.pointer (some ⟨g,0,none⟩),.int .i64 (kidsOf t).length])) (by simp) 1 rfl;have q2':∀ o,(Wb.alloc o).cell? ⟨X.p,2,none⟩=some (.slice aoP ls.length capP):=fun o=>(Below.cell ((Below.refl _ Wb).alloc (Nat.le_refl _) o) (World.block_lt_of_cell? _ _ q2)).trans q2;have q3':∀ o,(Wb.alloc o).cell? ⟨X.p,3,none⟩=some (.map (some X.m)):=fun o=>(Below.cell ((Below.refl _ Wb).alloc (Nat.le_refl _) o) (World.block_lt_of_cell? _ _ q3)).trans q3;have b2':=fun o=>(ha o).box (b:=(w.heap.size,51,[.int .i64 (opOf t),.int .i64 (numOf t),.string ⟨(txtOf t).toArray⟩,.slice (some ⟨g,0,none⟩) (kidsOf t).length cap])) (by simp) 3 rfl;clear ha;have HROW:Hid _:=hrow;have HKIDS:Hid _:=hkids;have HK:Hid _:=hk;clear hown hrow hkids hk hN hW hG
  go_enter Tryz.func100,Tryz.ntmps100
  go_wp2_with fail;go_region
  rw[← hWb]
  clear hWb;go_wp2_with fail;go_region
  go_wp2_with (go_at_call 140;refine hold ?_)
  refine Calls.mono (at_nodes (R':=fun k=>k=g) (x:=seqOf X.iv X.ic (kidsOf t) ls.length) HK.out (HB.out.later (((Below.refl _ Wb).alloc (Nat.le_refl _) _).drew)) HROW.out HKIDS.out HT.out (fun k hk=>hk ▸ hSg) rfl) ?_;clear l1 l2 q2 q3 b0 b1 b2 b0' b1' q2' q3' b2';rintro e w7 (⟨rfl,hn,hB⟩|⟨rfl,hK⟩)
  ·clear HB HT;go_wp2_with fail
   exact⟨rfl,.inr ⟨rfl,hn,hB⟩⟩
  clear HB HT HK HROW HKIDS
  obtain⟨G7,k1,k2,k3,k4⟩:=hK
  have k2d:=k2.later (Below.refl _ w7).drew;have hg7:g∉G7:=fun h=>(k1 g h).2 rfl
  obtain⟨ao7,cap7,k5,_⟩:=k2.blk
  have r2:=k5.cell 2 rfl;have r3:=k5.cell 3 rfl;have s0:=(k3 (w.heap.size+1,195,[.pointer (some ⟨g,0,none⟩),.int .i64 (kidsOf t).length]) (by simp)).cell 0 rfl;have s1:=(k3 (w.heap.size+1,195,[.pointer (some ⟨g,0,none⟩),.int .i64 (kidsOf t).length]) (by simp)).cell 1 rfl;have hlen:=k2.len
  obtain⟨N,hN⟩:∃ N:Nat,N=(ls++seqOf X.iv X.ic (kidsOf t) ls.length).length:=⟨_,rfl⟩
  rw[← hN] at r2 hlen
  have hNI:(N:Int)≤1500:=by omega
  obtain⟨w8,m1,m2,m3,-⟩:=run_putT k2d.map (fun q hq=>cellsy_below (k2d.hG q hq) k2d.below) (g:=g) ((kidsOf t).length:Int) (ls.length:Int) (N:Int) (cellsy_below hcy k2d.below) hg7
  obtain⟨m4,m5⟩:=k2d.mapped hcy m2 m3
  have HF:Hid (RanS X (ls++seqOf X.iv X.ic (kidsOf t) ls.length) G S w (.returned (.tuple #[])) w8):=by
   refine .inl ⟨rfl,G7++[g],fun q hq=>?_,m4,(k4.trans (ch_below k2.lt (Below.refl _ w7).drew)).trans m5⟩;rcases List.mem_append.1 hq with h|h
   ·exact (k1 q h).1
   ·simp at h;exact .inr (h ▸ hSg)
  unfold keyV at m1;clear k1 k2 k3 k4 k2d m2 m3 m4 m5 k5 hN hlen hg7;go_wp2_with fail;go_region
  all_goals
   refine bodyPost_end (v:=.tuple #[]) ?_ rfl HF.out;simp[results,Tryz.results100]

end Cm
namespace Cm
open St (Vl encV)
open Nd Ty
open Oc (hold Blk)

theorem hid_eq {α:Type}(x:α):∃ y,Hid (y=x):=⟨x,rfl⟩
theorem prints_snoc:∀ (fs:List Pt) (f:Pt) (i b:Nat),prints i (fs++[f]) b=prints i fs b++(f (b+(prints i fs b).length)++[(33,((min (i+fs.length) 1:Nat):Int),none')])
 | [],f,i,b=>by simp[prints]
 | g::fs,f,i,b=>by
  simp only[List.cons_append,prints,prints_snoc fs f,List.length_cons,List.length_append,List.append_assoc]
  rw[show b+(g b).length+1+(prints (i+1) fs (b+(g b).length+1)).length=b+((g b).length+((prints (i+1) fs (b+(g b).length+1)).length+1)) by omega,show i+1+fs.length=i+(fs.length+1) by omega]
def printOf (iv ic:ByteArray→Int)(ts:List Data):Pt:=prints 0 ((ts.map (comp iv ic)).map (·.2))
theorem printOf_take (iv ic:ByteArray→Int){ts:List Data}{k:Nat}{t:Data}(h:ts[k]?=some t)(b:Nat):printOf iv ic (ts.take (k+1)) b=printOf iv ic (ts.take k) b++(nodeP iv ic t (b+(printOf iv ic (ts.take k) b).length)++[(33,((min k 1:Nat):Int),none')]):=by
 have hk:k<ts.length:=(List.getElem?_eq_some_iff.1 h).1;unfold printOf
 rw[List.take_add_one,h]
 simp only[Option.toList_some,List.map_append,List.map_cons,List.map_nil,prints_snoc];simp[nodeP,Nat.min_eq_left (Nat.le_of_lt hk)]
theorem prints_append:∀ (fs gs:List Pt) (i b:Nat),∃ x,prints i (fs++gs) b=prints i fs b++x
 | [],gs,i,b=>⟨prints i gs b,by simp[prints]⟩
 | f::fs,gs,i,b=>by
  obtain⟨x,hx⟩:=prints_append fs gs (i+1) (b+(f b).length+1)
  exact⟨x,by simp[prints,hx]⟩
theorem printOf_len (iv ic:ByteArray→Int)(ts:List Data)(k b:Nat):(printOf iv ic (ts.take k) b).length≤(printOf iv ic ts b).length:=by
 unfold printOf
 obtain⟨x,hx⟩:=prints_append (((ts.take k).map (comp iv ic)).map (·.2)) (((ts.drop k).map (comp iv ic)).map (·.2)) 0 b
 rw[← List.map_append,← List.map_append,List.take_append_drop] at hx
 rw[hx,List.length_append]
 omega

set_option maxHeartbeats 4000000 in
set_option maxRecDepth 100000 in
theorem iPrint {X:Fx}{ts:List Data}(hk:∀ t∈ts,NodeOk X t)(hn:ts.length≤1048577){ls:List Vl}{G:List Nat}{w:World}{S:Nat→Prop}{ao:Option Addr}{cap:Nat}{xs:List Value}(hW:Wk X ls G w)(hrow:X.W.ownsRow 0 51 4 (.slice ao ts.length cap) ts.length xs)(hN:NodesIs X.W ts S xs)(hG:∀ g∈G,¬ S g):
  Calls Tryz.prog 141 #[.pointer (some ⟨X.p,0,none⟩),.slice ao ts.length cap] w fun e w'=>RanS X (ls++((if ts.isEmpty then [(1,0,none'),(9,0,none'),(33,0,none')] else printOf X.iv X.ic ts ls.length)++[(34,0,none')])) G S w e w':=by
 have bn:(ts.length:Int)≤1048577:=by omega
 have HROW:Hid (X.W.ownsRow 0 51 4 (.slice ao ts.length cap) ts.length xs):=hrow;have HK:Hid (∀ t∈ts,NodeOk X t):=hk
 obtain⟨LF,hLF⟩:=hid_eq (ls++((if ts.isEmpty then [(1,0,none'),(9,0,none'),(33,0,none')] else printOf X.iv X.ic ts ls.length)++[(34,0,none')]))
 rw[← hLF.out]
 have HLF:Hid (ts≠[]→LF=ls++printOf X.iv X.ic ts ls.length++[(34,0,none')]):=fun h=>by
  rw[hLF.out]
  have:ts.isEmpty=false:=by cases ts;exact absurd rfl h;rfl
  rw[this]
  simp
 have HLN:Hid (ts=[]→LF=ls++[(1,0,none')]++[(9,0,none')]++[(33,0,none')]++[(34,0,none')]):=fun h=>by
  rw[hLF.out,h]
  simp
 clear hn hrow hk hLF
 go_enter Tryz.func141,Tryz.ntmps141
 go_wp2_with fail
 go_loopw [4,5,8] (fun _ _ i wr=>∃ k:Nat,k≤ts.length∧i=.int .i64 k∧Hid (∃ Sq,NodesIs X.W (ts.drop k) Sq (xs.drop (k*4))∧(∀ k,Sq k→S k)∧At X w [] G S Sq (ls++printOf X.iv X.ic (ts.take k) ls.length) wr)) (fun _ _ i _=>ts.length - (intOf i).toNat)
 case atStart=>exact⟨0,Nat.zero_le _,rfl,S,by simpa using hN,fun _ h=>h,by have:=at_none hW hG (R:=S) (fun _ h=>h);simpa [printOf,prints] using this⟩
 case round =>
  obtain⟨k,hkn,rfl,HH⟩:=hrel
  clear hN hW hG
  by_cases hkl:k<ts.length
  ·obtain⟨Sq,h1,h2,h5⟩:=HH.out
   obtain⟨T1,T2,a,b,c,u,i1,i2,i3,i4,e0,e1,e2,e3⟩:=drop_node hkl h1
   obtain⟨g,rfl,hg,hc⟩:=row_cells HROW.out hkl
   have c0:=h5.wk (hc _ _ e0);have c1:=h5.wk (hc _ _ e1);have c2:=h5.wk (hc _ _ e2);have c3:=h5.wk (hc _ _ e3);have bk:(k:Int)<ts.length:=by omega
   obtain⟨ao',cap',rfl,rfl,rfl,rfl⟩:=node_vals i1
   obtain⟨wa,hwa⟩:∃ wa,wa=wr.alloc (.cells #[.int .i64 (opOf ts[k]),.int .i64 (numOf ts[k]),.string ⟨(txtOf ts[k]).toArray⟩,.slice ao' (kidsOf ts[k]).length cap'] 51):=⟨_,rfl⟩
   have HA:Hid (At X w [] G S Sq (ls++printOf X.iv X.ic (ts.take k) ls.length) wa):=by rw[hwa];exact h5.later ((Below.refl _ _).alloc (Nat.le_refl _) _)
   obtain⟨fx,hfx⟩:=hid_eq (nodeP X.iv X.ic ts[k] (ls++printOf X.iv X.ic (ts.take k) ls.length).length)
   have HS:Hid ((ls++printOf X.iv X.ic (ts.take k) ls.length)++fx++[(33,((min k 1:Nat):Int),none')]=ls++printOf X.iv X.ic (ts.take (k+1)) ls.length):=by
    show _=_
    rw[printOf_take X.iv X.ic (List.getElem?_eq_getElem hkl) ls.length,hfx.out,List.length_append]
    simp
   have HF:Hid ((ls++printOf X.iv X.ic (ts.take (k+1)) ls.length).length+1≤LF.length):=by
    show _≤_
    rw[HLF.out (by rintro rfl;simp at hkl),List.length_append,List.length_append,List.length_append]
    have:=printOf_len X.iv X.ic ts (k+1) ls.length
    simp only[List.length_cons,List.length_nil];omega
   have CALL:Hid (Calls Tryz.prog 101 #[.pointer (some ⟨X.p,0,none⟩),.agg #[.int .i64 (opOf ts[k]),.int .i64 (numOf ts[k]),.string ⟨(txtOf ts[k]).toArray⟩,.slice ao' (kidsOf ts[k]).length cap']] wa fun e w'=>Step X (.tuple #[]) w [] G S T2 ((ls++printOf X.iv X.ic (ts.take k) ls.length)++fx) e w') :=
    at_node (HK.out ts[k] (List.getElem_mem hkl)) HA.out i1 (fun q hq=>⟨h2 q (i3 q hq).1,(i3 q hq).1,(i3 q hq).2⟩) i4 hfx.out
   have HI:Hid (NodesIs X.W (ts.drop (k+1)) T2 (xs.drop ((k+1)*4))∧(∀ k,T2 k→S k)):=⟨i2,fun k hk=>h2 k (i4 k hk)⟩;clear HH h1 h2 h5 i1 i2 i3 i4 hc e0 e1 e2 e3 hfx;generalize opOf ts[k]=opk at *;generalize numOf ts[k]=nk at *;generalize txtOf ts[k]=sk at *;generalize (kidsOf ts[k]).length=lk at *
   go_wp2_with (go_at_call 101;refine hold ?_)
   rw[← hwa]
   clear hwa;refine Calls.mono CALL.out ?_;clear c0 c1 c2 c3;rintro e w2 (⟨rfl,hn,hB⟩|⟨rfl,hK⟩)
   ·clear CALL HI HA;go_wp2_with fail
    exact⟨rfl,.inr ⟨rfl,by have h1:=HF.out;have h2:=congrArg List.length HS.out;simp only[List.length_append,List.length_cons,List.length_nil] at hn h1 h2 ⊢;omega,hB⟩⟩
   have CP:Hid (Calls Tryz.prog 59 #[.pointer (some ⟨X.p,0,none⟩),.int .i64 33,.int .i64 ((min k 1:Nat):Int),.string ⟨#[]⟩] w2 fun e w'=>Step X (.tuple #[]) w [] G S T2 (ls++printOf X.iv X.ic (ts.take (k+1)) ls.length) e w'):=by
    rw[← HS.out]
    exact at_put hK 33 ((min k 1:Nat):Int) none'
   clear hK CALL HA
   by_cases hk0:k=0
   ·subst hk0
    go_wp2_with (go_at_call 59;refine hold ?_)
    refine Calls.mono CP.out ?_;rintro e w3 (⟨rfl,hn,hB⟩|⟨rfl,hK⟩)
    ·clear HI CP;go_wp2_with fail
     exact⟨rfl,.inr ⟨rfl,by have h1:=HF.out;omega,hB⟩⟩
    have HR:Hid (∃ Sq,NodesIs X.W (ts.drop (0+1)) Sq (xs.drop ((0+1)*4))∧(∀ k,Sq k→S k)∧At X w [] G S Sq (ls++printOf X.iv X.ic (ts.take (0+1)) ls.length) w3):=⟨T2,HI.out.1,HI.out.2,hK⟩;clear hK HI CP HS HF;go_wp2_with fail;go_roundw
    case rel=>exact⟨0+1,hkl,by go_num,HR⟩
    case measure=>simp[intOf];omega
   by_cases hk1:k=1
   ·subst hk1
    go_wp2_with (go_at_call 59;refine hold ?_)
    refine Calls.mono CP.out ?_;rintro e w3 (⟨rfl,hn,hB⟩|⟨rfl,hK⟩)
    ·clear HI CP;go_wp2_with fail
     exact⟨rfl,.inr ⟨rfl,by have h1:=HF.out;omega,hB⟩⟩
    have HR:Hid (∃ Sq,NodesIs X.W (ts.drop (1+1)) Sq (xs.drop ((1+1)*4))∧(∀ k,Sq k→S k)∧At X w [] G S Sq (ls++printOf X.iv X.ic (ts.take (1+1)) ls.length) w3):=⟨T2,HI.out.1,HI.out.2,hK⟩;clear hK HI CP HS HF;go_wp2_with fail;go_roundw
    case rel=>exact⟨1+1,hkl,by go_num,HR⟩
    case measure=>simp[intOf];omega
   ·have hk2:(1:Int)<k:=by omega
    rw[show min k 1=1 by omega] at CP
    go_wp2_with (go_at_call 59;refine hold ?_)
    refine Calls.mono CP.out ?_;rintro e w3 (⟨rfl,hn,hB⟩|⟨rfl,hK⟩)
    ·clear HI CP;go_wp2_with fail
     exact⟨rfl,.inr ⟨rfl,by have h1:=HF.out;omega,hB⟩⟩
    have HR:Hid (∃ Sq,NodesIs X.W (ts.drop (k+1)) Sq (xs.drop ((k+1)*4))∧(∀ k,Sq k→S k)∧At X w [] G S Sq (ls++printOf X.iv X.ic (ts.take (k+1)) ls.length) w3):=⟨T2,HI.out.1,HI.out.2,hK⟩;clear hK HI CP HS HF;go_wp2_with fail;go_roundw
    case rel=>exact⟨k+1,hkl,by go_num,HR⟩
    case measure=>simp[intOf];omega
  ·obtain rfl:k=ts.length:=by omega
   obtain⟨Sq,h1,h2,h5⟩:=HH.out
   rw[List.take_length] at h5
   by_cases ht:ts=[]
   ·subst ht;have H0:Hid (At X w [] G S Sq ls wr):=by
     have h6:=h5;simp only[printOf,prints,List.map_nil,List.append_nil] at h6;exact h6
    have hL:=HLN.out rfl;subst hL;clear HH h1 h2 h5 HLF HLN HK HROW
    go_wp2_with (go_at_call 59;refine hold ?_)
    refine Calls.mono (at_put H0.out 1 0 none') ?_;rintro e v1 (⟨rfl,hn,hB⟩|⟨rfl,hK⟩)
    ·clear H0;go_wp2_with fail
     exact⟨rfl,.inr ⟨rfl,by simp only[List.length_append,List.length_cons,List.length_nil] at hn ⊢;omega,hB⟩⟩
    have J1:Hid (At X w [] G S Sq (ls++[((1,0,none'):Vl)]) v1):=hK;clear hK H0
    go_wp2_with (go_at_call 59;refine hold ?_)
    refine Calls.mono (at_put J1.out 9 0 none') ?_;rintro e v2 (⟨rfl,hn,hB⟩|⟨rfl,hK⟩)
    ·clear J1;go_wp2_with fail
     exact⟨rfl,.inr ⟨rfl,by simp only[List.length_append,List.length_cons,List.length_nil] at hn ⊢;omega,hB⟩⟩
    have J2:Hid (At X w [] G S Sq ((ls++[((1,0,none'):Vl)])++[((9,0,none'):Vl)]) v2):=hK;clear hK J1
    go_wp2_with (go_at_call 59;refine hold ?_)
    refine Calls.mono (at_put J2.out 33 0 none') ?_;rintro e v3 (⟨rfl,hn,hB⟩|⟨rfl,hK⟩)
    ·clear J2;go_wp2_with fail
     exact⟨rfl,.inr ⟨rfl,by simp only[List.length_append,List.length_cons,List.length_nil] at hn ⊢;omega,hB⟩⟩
    have J3:Hid (At X w [] G S Sq (((ls++[((1,0,none'):Vl)])++[((9,0,none'):Vl)])++[((33,0,none'):Vl)]) v3):=hK;clear hK J2
    go_wp2_with (go_at_call 59;refine hold ?_)
    refine Calls.mono (at_put J3.out 34 0 none') ?_;rintro e v4 (⟨rfl,hn,hB⟩|⟨rfl,hK⟩)
    ·clear J3;go_wp2_with fail
     exact⟨rfl,.inr ⟨rfl,by simp only[List.length_append,List.length_cons,List.length_nil] at hn ⊢;omega,hB⟩⟩
    have J4:Hid (At X w [] G S Sq ((((ls++[((1,0,none'):Vl)])++[((9,0,none'):Vl)])++[((33,0,none'):Vl)])++[((34,0,none'):Vl)]) v4):=hK;clear hK J3;go_wp2_with fail;refine bodyPost_end (v:=.tuple #[]) ?_ rfl (J4.out.ends rfl);simp[results,Tryz.results141]
   ·have hpos:(0:Int)<ts.length:=by have:=List.length_pos_iff.2 ht;omega
    have hL:=HLF.out ht;subst hL;have H0:Hid (At X w [] G S Sq (ls++printOf X.iv X.ic ts ls.length) wr):=h5;have hne:¬ (ts.length:Int)=0:=by omega
    clear HH h1 h2 h5 HLF HLN HK HROW ht
    go_wp2_with (go_at_call 59;refine hold ?_)
    refine Calls.mono (at_put H0.out 34 0 none') ?_;rintro e v1 (⟨rfl,hn,hB⟩|⟨rfl,hK⟩)
    ·clear H0;go_wp2_with fail
     exact⟨rfl,.inr ⟨rfl,hn,hB⟩⟩
    have J1:Hid (At X w [] G S Sq (ls++printOf X.iv X.ic ts ls.length++[((34,0,none'):Vl)]) v1):=hK;clear hK H0;go_wp2_with fail;refine bodyPost_end (v:=.tuple #[]) ?_ rfl (J1.out.ends rfl);simp[results,Tryz.results141]

end Cm
end Go.Proofs.YtllbachngocmnaaGreatDoor
