/-
  The program's amissWhere: the first node at which a reason shows.
-/
import Derived.Test.YtllbachngocmnaaGreatDoorP26
import Derived.Shelf.AbstractIn
import Derived.Test.YtllbachngocmnaaGreatDoorP35
namespace Go.Proofs.YtllbachngocmnaaGreatDoor
open Go.RowKit
namespace Ck
open Nd Ty
attribute [local go_sem] Oper.semAt_some

structure Asks (w:World)(rs:List Ru)(Sx:Nat→Prop)(I0:List Data→World→Prop)(q:List Data→Bool)(f:Nat)(lb:Array Value):Prop where
 own:∀ s A A',I0 s A→w.heap.size≤A.heap.size→(∀ k,k<w.heap.size→A'.heap[k]?=A.heap[k]?)→I0 s A'
 call:∀ (pre:List Data) (t:Data) (S:Nat→Prop) (a b c u:Value) (W:World),I0 pre W→Fr Sx w W→pre.length≤2500000→NodeIs W t S [a,b,c,u]→(∀ k,S k→k<W.heap.size)→siz t≤1048576→SubR rs t →
  Calls Tryz.prog f (#[.agg #[a,b,c,u]]++lb) W fun e W'=>e=.returned (.bool (q (pre++[t])))∧I0 (pre++[t]) W'∧Fr Sx W W'∧∀ k,Sx k→¬ Cellsy W' k

def Here (w:World)(Sx:Nat→Prop)(I0:List Data→World→Prop)(q:List Data→Bool){W0:World}{rs:List Ru}(pre:List (Nde W0 rs))(W:World):Prop :=
 I0 (pre.map Nde.t) W∧Fr Sx W0 W∧(∀ p,p≠[]→p <+: pre.map Nde.t→q p=false)∧Fr Sx w W
def Left (Br:Nat)(Sx:Nat→Prop)(q:List Data→Bool)(code:Int){W0:World}{rs:List Ru}(c:Code)(pre:List (Nde W0 rs))(W:World):Prop :=
 c=.ret∧(∃ r:Nat,W.heap[Br]?=some (.cells #[.iface 82 (.agg #[.int .i64 code,.int .i64 r])] 85 (0,0)))∧pre≠[]∧q (pre.map Nde.t)=true∧Fr (fun k=>Sx k∨k=Br) W0 W

theorem mem_sub {rs:List Ru}{k:Nat}{t:Data}(h:(k,t)∈visit 0 rs):SubR rs t:=mem_allOf.1 (List.mem_map.2 ⟨_,h,rfl⟩)

set_option maxHeartbeats 2000000 in
set_option maxRecDepth 100000 in
theorem iAmissWhere {rs:List Ru}{w:World}{S:Nat→Prop}{ao:Option Addr}{cap:Nat}{xs:List Value}{B f:Nat}{lb:Array Value}{Sx:Nat→Prop}{I0:List Data→World→Prop}{q:List Data→Bool}{code:Int}(hsz:sizR rs≤1048576)(ho:w.ownsRow B 53 9 (.slice ao rs.length cap) rs.length xs)(hr:RulesAp w rs S xs)
  (hSx0:∀ k,Sx k→k<w.heap.size∧¬ Cellsy w k∧(Value.slice ao rs.length cap).ownBlock≠some k) (hQ:Asks w rs Sx I0 q f lb) (eg:∀ args w,(callFunc f args).run Tryz.prog w=.ok (.enter f args) w) (h0:I0 [] w):
  Calls Tryz.prog 81 #[.slice ao rs.length cap,.int .i64 code,.func (.func f) #[] lb] w fun e w'=>Fr Sx w w'∧((e=.returned .nilIface∧∀ p,p≠[]→p <+: allOf rs→q p=false)∨(∃ r:Nat,e=.returned (.iface 82 (.agg #[.int .i64 code,.int .i64 r])))∧∃ p,p≠[]∧p <+: allOf rs∧q p=true):=by
 refine (callsIn_wide (n:=6)).1 ?_;have h1n:1≤6:=by omega
 have hfE:Fence.wide.fn 97:=trivial;refine callsIn_of_wp_marks Tryz.func81 rfl trivial ?_ rfl;simp only[Tryz.ntmps81,List.size_toArray,List.length_cons,List.length_nil,Nat.reduceAdd,Nat.reduceSub,Array.replicate_succ,Array.replicate_zero,List.push_toArray,List.append_toArray,List.nil_append,List.cons_append]
 gi_wp2_with (gi_at_call 97;refine (callsIn_wide.2 (iEachNode _ _ _ _)).mono ?_;rintro e w2 ⟨rfl,rfl⟩)
 obtain⟨W0,hW0⟩:∃ W0,W0=(((w.alloc (.cells #[.int .i64 code] 3)).alloc (.cells #[.func (.func f) #[] lb] 73)).alloc (.cells #[.nilIface] 85)).alloc (.cells #[.slice ao rs.length cap] 30):=⟨_,rfl⟩
 have hbW:Below w.heap.size w W0:=by rw[hW0];exact ((((Below.refl _ w).alloc (Nat.le_refl _) _).alloc (by simp) _).alloc (by simp <;> omega) _).alloc (by simp <;> omega) _
 have hsW:W0.heap.size=w.heap.size+4:=by simp[hW0]
 have e0:W0.heap[w.heap.size]?=some (.cells #[.int .i64 code] 3 (0,0)):=by
  rw[hW0,Below.heap_alloc _ _ _ (by simp <;> omega),Below.heap_alloc _ _ _ (by simp <;> omega),Below.heap_alloc _ _ _ (by simp),heap_new]
 have e1:W0.heap[w.heap.size+1]?=some (.cells #[.func (.func f) #[] lb] 73 (0,0)):=by
  rw[hW0,Below.heap_alloc _ _ _ (by simp <;> omega),Below.heap_alloc _ _ _ (by simp)]
  have:=heap_new (w.alloc (.cells #[.int .i64 code] 3)) (.cells #[.func (.func f) #[] lb] 73)
  rwa [World.size_alloc] at this
 have e2:W0.heap[w.heap.size+1+1]?=some (.cells #[.nilIface] 85 (0,0)):=by
  rw[hW0,Below.heap_alloc _ _ _ (by simp)]
  have:=heap_new ((w.alloc (.cells #[.int .i64 code] 3)).alloc (.cells #[.func (.func f) #[] lb] 73)) (.cells #[.nilIface] 85)
  rwa [World.size_alloc,World.size_alloc] at this
 have hbl:W0.heap[w.heap.size+1+1+1]?=some (.cells #[.slice ao rs.length cap] 30 (0,0)):=by
  rw[hW0]
  have:=heap_new (((w.alloc (.cells #[.int .i64 code] 3)).alloc (.cells #[.func (.func f) #[] lb] 73)).alloc (.cells #[.nilIface] 85)) (.cells #[.slice ao rs.length cap] 30)
  rwa [World.size_alloc,World.size_alloc,World.size_alloc] at this
 have hlt:∀ k,(S k∧Cellsy w k)→k<w.heap.size:=fun k hk=>by obtain⟨cur,hc⟩:=hk.2;exact heap_lt hc
 have hapW:=ap_frame (fun k hk=>hbW.block k (hlt k hk)) (ap_cells hr);have hcyW:∀ k,(S k∧Cellsy w k)→Cellsy W0 k:=fun k hk=>by have:=hlt k hk;obtain⟨cur,hc⟩:=hk.2;exact⟨cur,(hbW.block k this).trans hc⟩
 have hoW:W0.ownsRow B 53 9 (.slice ao rs.length cap) rs.length xs:=owns_same ho fun g hg=>hbW.block g (ho.lt g hg).2;have hSx:∀ k,Sx k→k<W0.heap.size∧¬ Cellsy W0 k∧(Value.slice ao rs.length cap).ownBlock≠some k:=fun k hk=>by
  obtain⟨a1,a2,a3⟩:=hSx0 k hk
  exact⟨by omega,fun ⟨cur,hc⟩=>a2 ⟨cur,(hbW.block k a1).symm.trans hc⟩,a3⟩
 have hSl:∀ k,Sx k→k<W0.heap.size:=fun k hk=>(hSx k hk).1;have HsW:Hid _:=hsW;have hSw:∀ k,Sx k→k<w.heap.size:=fun k hk=>(hSx0 k hk).1;have hvl:=visit_len 0 rs;have hseq:=nodes_stops (n:=5) hsz hbl hoW hapW hcyW hSx (by omega);have hI00:I0 [] W0:=hQ.own [] w W0 h0 (Nat.le_refl _) (fun k hk=>hbW.block k hk);have hownH:OwnFrom W0.heap.size (Here w Sx I0 q (W0:=W0) (rs:=rs)):=by
  rintro s A A' row ⟨i1,i2,i3,i4⟩ hg hrow;have hsA:=i2.size
  exact⟨hQ.own _ _ _ i1 (by omega) fun k hk=>hg.block k (by omega) fun e=>by have:=(hrow k e.symm).1;omega,i2.grown hg fun k e=>.inl (hrow k e).1,i3,i4.grown hg fun k e=>.inl (by have:=(hrow k e).1;omega)⟩
 have hownL:∀ c,OwnFrom W0.heap.size (Left (w.heap.size+1+1) Sx q code (W0:=W0) (rs:=rs) c):=by
  rintro c s A A' row ⟨i1,⟨r,i2⟩,i3,i4,i5⟩ hg hrow;have hsA:=i5.size
  exact⟨i1,⟨r,(hg.block _ (by omega) fun e=>by have:=(hrow _ e.symm).1;omega).trans i2⟩,i3,i4,i5.grown hg fun k e=>.inl (hrow k e).1⟩
 rw[← hW0]
 clear hW0 hapW hcyW hoW hlt hbl;refine wpIn_rangeFunc_ownH rfl h1n (gf:=134) (lb:=#[.pointer (some ⟨w.heap.size+1+1+1,0,none⟩)]) rfl trivial (enters_of Tryz.func134 (by kernel_rfl) rfl) hseq (fun h k=>h.trans k) (Keep.put hSl) (Below.refl _ _) (fun _=>rfl)
  (Here w Sx I0 q) (Left (w.heap.size+1+1) Sx q code) hownH hownL ⟨hI00,Fr.refl _ _,fun p hp h=>absurd (List.prefix_nil.1 h) hp,fr_below hbW⟩
  (fun x a' W=>∃ Bx,W0.heap.size≤Bx∧W.heap[Bx]?=some (.cells #[x.a,x.b,x.c,x.u] 51 (0,0))∧a'={ tmps:=#[.slice ao rs.length cap,.int .i64 code,.func (.func f) #[] lb,undef,.pointer (some ⟨w.heap.size,0,none⟩),.pointer (some ⟨w.heap.size+1,0,none⟩),.pointer (some ⟨w.heap.size+1+1,0,none⟩),.int .i64 x.rule,.pointer (some ⟨Bx,0,none⟩),.slice ao rs.length cap,.func (.func 134) #[] #[.pointer (some ⟨w.heap.size+1+1+1,0,none⟩)],.int .i64 x.rule,.agg #[x.a,x.b,x.c,x.u],undef,undef,undef,undef,undef,undef,undef],defers:=[] })
  (fun x a' u A B row hs hg hr=>by
   obtain⟨Bx,h1,h2,h3⟩:=hs
   refine⟨Bx,h1,(hg.block Bx (heap_lt h2) fun e=>?_).trans h2,h3⟩
   obtain⟨o,ho,hc⟩:=(hr Bx e.symm).2
   rw[h2] at ho
   cases ho;cases hc) ?assign ?body ?done ?stop
 case assign =>
  rintro l pre x W K hi hK
  obtain⟨op,n,st,ao',cap',ys,-,ea,eb,ec,eu,-⟩:=node_form x.is
  have henc:x.encs=#[.int .i64 x.rule,.agg #[x.a,x.b,x.c,x.u]]:=rfl
  rw[henc]
  simp only[ea,eb,ec,eu] at hK ⊢;have hsz2:=hi.2.1.size;clear henc ea eb ec eu
  gi_wp2
  exact hK _ _ ((KeepsOthers.alloc _ _).from _) (Keep.below (fun k hk=>Nat.lt_of_lt_of_le (hSl k hk) hsz2) ((Below.refl _ _).alloc (Nat.le_refl _) _)) (hownH pre W _ none hi (World.grownBy_alloc W _ none) (fun r e=>by cases e)) ⟨W.heap.size,hsz2,heap_new _ _,rfl⟩
 case body =>
  rintro l pre x a' W hl ⟨r,hr⟩ ⟨hi,hF,hq,hFw⟩ ⟨Bx,hBx,hnx,rfl⟩ hlen;have hsF:=hF.size;have hnt:∀ k,¬ Sx k→k<W0.heap.size→W.heap[k]?=W0.heap[k]?:=fun k h1 h2=>hF.block k h2 h1;have hb0:=(hnt (w.heap.size) (fun h=>by have:=hSw _ h;omega) (by omega)).trans e0;have hb1:=(hnt (w.heap.size+1) (fun h=>by have:=hSw _ h;omega) (by omega)).trans e1;have hb2:=(hnt (w.heap.size+1+1) (fun h=>by have:=hSw _ h;omega) (by omega)).trans e2;have hxW:NodeIs W x.t x.S [x.a,x.b,x.c,x.u]:=node_frame _ _ _ (fun k hk=>by
   have hc:=x.cy k hk;have hkl:k<W0.heap.size:=by obtain⟨cur,h⟩:=hc;exact heap_lt h
   exact hnt k (fun h=>(hSx k h).2.1 hc) hkl) x.is
  have hxl:∀ k,x.S k→k<W.heap.size:=fun k hk=>by obtain⟨cur,h⟩:=x.cy k hk;have:=heap_lt h;omega
  have call:=hQ.call (pre.map Nde.t) x.t x.S x.a x.b x.c x.u W hi hFw (by rw[List.length_map];omega) hxW hxl x.sz (mem_sub x.mem);have hpq:∀ b,q (pre.map Nde.t++[x.t])=b→(b=false→∀ p,p≠[]→p <+: (pre++[x]).map Nde.t→q p=false):=by
   rintro b rfl hb p hp hpre
   rw[List.map_append,List.map_cons,List.map_nil] at hpre
   rcases List.prefix_concat_iff.1 hpre with rfl|h
   ·exact hb
   ·exact hq p hp h
  obtain⟨op,n,st,ao',cap',ys,-,ea,eb,ec,eu,-⟩:=node_form hxW
  rw[ea,eb,ec,eu] at call
  simp only[ea,eb,ec,eu] at hnx ⊢;have c0:W.cell? ⟨w.heap.size+1,0,none⟩=some (.func (.func f) #[] lb):=by simp[World.cell?,hb1]
  have x0:W.cell? ⟨Bx,0,none⟩=some (.int .i64 op):=by simp[World.cell?,hnx]
  have x1:W.cell? ⟨Bx,1,none⟩=some (.int .i64 n):=by simp[World.cell?,hnx]
  have x2:W.cell? ⟨Bx,2,none⟩=some (.string ⟨st.toArray⟩):=by simp[World.cell?,hnx]
  have x3:W.cell? ⟨Bx,3,none⟩=some (.slice ao' (kidsOf x.t).length cap'):=by simp[World.cell?,hnx]
  have hfT:Fence.wide.fn f:=trivial;have h12:1≤6 - 1 - 1:=by omega
  obtain⟨qb,hqb⟩:∃ qb,q (pre.map Nde.t++[x.t])=qb:=⟨_,rfl⟩
  have hpq':Hid (qb=false→∀ p,p≠[]→p <+: (pre++[x]).map Nde.t→q p=false):=hpq qb hqb;have HQB:Hid _:=hqb
  rw[hqb] at call
  clear hnx ea eb ec eu hxW hxl hpq hqb hq;have hback:∀ W2,Fr Sx W W2→W2.cell? ⟨w.heap.size,0,none⟩=some (.int .i64 code)∧W2.cell? ⟨w.heap.size+1+1,0,none⟩=some .nilIface∧W2.frozen? ⟨w.heap.size+1+1,0,none⟩=false∧W2.heap[w.heap.size+1+1]?=some (.cells #[.nilIface] 85 (0,0)):=fun W2 h=>by
   have y0:=(h.block (w.heap.size) (by omega) (fun h=>by have:=hSw _ h;omega)).trans hb0;have y2:=(h.block (w.heap.size+1+1) (by omega) (fun h=>by have:=hSw _ h;omega)).trans hb2;simp[World.cell?,World.frozen?,y0,y2]
  have hkeep:∀ W2,Fr Sx W W2→KeepsFrom W0.heap.size W W2:=fun W2 h=>⟨h.size,fun k o hk h1 _=>(h.block k (heap_lt h1) (fun h=>by have:=hSl k h;omega)).trans h1⟩
  cases qb with
  | false =>
   gi_wp2_with (gi_at_fn f;refine (CallsIn.inRound l (callsIn_wide.2 call)).mono ?_;rintro e W2 ⟨rfl,hi2,hF2,hn2⟩)
   refine⟨?_,⟨hF2.size,fun k o h1 hn _=>(hF2.block k (heap_lt h1) hn).trans h1,fun k hk _=>hn2 k hk⟩,?_,hF.trans hF2,hpq'.out (by first|rfl|trivial),hFw.trans hF2⟩
   ·exact hkeep W2 hF2
   ·rw[List.map_append,List.map_cons,List.map_nil];exact hi2
  | true =>
   gi_wp2_with (gi_at_fn f;refine (CallsIn.inRound l (callsIn_wide.2 call)).mono ?_;rintro e W2 ⟨rfl,hi2,hF2,hn2⟩;obtain⟨d0,d2,z2,y2⟩:=hback W2 hF2)
   have hs2:=hF2.size
   refine⟨?_,rfl,⟨x.rule,?_⟩,by simp,?_,?_⟩
   ·refine (hkeep W2 hF2).trans ⟨by simp,fun k o hk h1 _=>?_⟩
    rw[Below.heap_setCell _ _ _ _ (by have:=HsW.out;show k≠w.heap.size+1+1;omega)]
    exact h1
   ·simp[World.setCell,Array.getElem?_modify,y2]
   ·rw[List.map_append,List.map_cons,List.map_nil];exact HQB.out
   ·refine⟨?_,?_,?_,?_,fun k hk hn=>?_⟩
    ·exact hF2.os.trans hF.os
    ·exact hF2.tape.trans hF.tape
    ·exact hF2.output.trans hF.output
    ·simp;omega
    ·rw[Below.heap_setCell _ _ _ _ (fun e=>hn (.inr e)),hF2.block k (by omega) (fun h=>hn (.inl h)),hF.block k hk (fun h=>hn (.inl h))]
 case done =>
  rintro D ys W hD hS ⟨hi,hF,hq,hFw⟩ hK;have hsF:=hF.size;have hb2:=(hF.block (w.heap.size+1+1) (by omega) (fun h=>by have:=hSw _ h;omega)).trans e2;have c2:W.cell? ⟨w.heap.size+1+1,0,none⟩=some .nilIface:=by simp[World.cell?,hb2]
  have z2:W.frozen? ⟨w.heap.size+1+1,0,none⟩=false:=by simp[World.frozen?,hb2]
  have hBr:¬ Sx (w.heap.size+1+1):=fun h=>by have:=hSw _ h;omega
  have hDr:D≠w.heap.size+1+1:=by omega
  have hmap:ys.map Nde.t=allOf rs:=by unfold allOf;rw[← hS,List.map_map];rfl
  rw[hmap] at hq
  gi_wp2
  have hK2:(W.setCell ⟨w.heap.size+1+1,0,none⟩ .nilIface).heap[D]?=some (.deferred (some [])):=by rw[Below.heap_setCell _ _ _ _ hDr];exact hK
  have hbr:((W.setCell ⟨w.heap.size+1+1,0,none⟩ .nilIface).putObj D (.deferred none)).heap[w.heap.size+1+1]?=some (.cells #[.nilIface] 85 (0,0)):=by
   rw[World.putObj_heap_other (fun e=>hDr e.symm)]
   simp[World.setCell,Array.getElem?_modify,hb2]
  have hfin:Fr Sx w ((W.setCell ⟨w.heap.size+1+1,0,none⟩ .nilIface).putObj D (.deferred none)):=by
   have a1:=HsW.out
   refine⟨hFw.os,hFw.tape,hFw.output,by have:=hFw.size;simp[World.putObj];omega,fun k hk hn=>?_⟩
   rw[World.putObj_heap_other (by omega),Below.heap_setCell _ _ _ _ (by show k≠w.heap.size+1+1;omega),hFw.block k hk hn]
  refine⟨by simp,.inl ⟨_,_,rfl,run_takeDeferred hK2,?_⟩⟩
  refine⟨.nilIface,?_,hfin,.inl ⟨rfl,hq⟩⟩
  have c9:((W.setCell ⟨w.heap.size+1+1,0,none⟩ .nilIface).putObj D (.deferred none)).cell? ⟨w.heap.size+1+1,0,none⟩=some .nilIface:=by simp[World.cell?,hbr]
  simp[results,Tryz.results81,go_sem,c9]
 case stop =>
  rintro D c pre W hD hS ⟨rfl,⟨r,hbr⟩,hne,hqt,hF⟩ hK;have hsF:=hF.size;have hDr:D≠w.heap.size+1+1:=by omega
  have hpre:pre.map Nde.t <+: allOf rs:=by
   obtain⟨rest,hrest⟩:=hS
   refine⟨rest.map (·.2),?_⟩
   unfold allOf
   rw[← hrest,List.map_append,List.map_map]
   rfl
  gi_wp2
  have hbr2:(W.putObj D (.deferred none)).heap[w.heap.size+1+1]?=_:=(World.putObj_heap_other (fun e=>hDr e.symm)).trans hbr;have hfin:Fr Sx w (W.putObj D (.deferred none)):=by
   have a1:=HsW.out
   refine⟨hF.os.trans hbW.os,hF.tape.trans hbW.tape,hF.output.trans hbW.output,by have:=hbW.size;simp[World.putObj];omega,fun k hk hn=>?_⟩
   rw[World.putObj_heap_other (by omega),hF.block k (by omega) (fun h=>h.elim hn (by omega)),hbW.block k hk]
  refine⟨by simp,.inl ⟨_,_,rfl,run_takeDeferred hK,?_⟩⟩
  refine⟨.iface 82 (.agg #[.int .i64 code,.int .i64 r]),?_,hfin,.inr ⟨⟨r,rfl⟩,pre.map Nde.t,by simpa using hne,hpre,hqt⟩⟩
  have c9:(W.putObj D (.deferred none)).cell? ⟨w.heap.size+1+1,0,none⟩=some (.iface 82 (.agg #[.int .i64 code,.int .i64 r])):=by simp[World.cell?,hbr2]
  simp[results,Tryz.results81,go_sem,c9]

end Ck
namespace Ck
open Nd Ty
theorem op_form {w:World}{t:Data}{S:Nat→Prop}{a b c u:Value}(h:NodeIs w t S [a,b,c,u]):∃ ao cap xs,a=.int .i64 (opOf t)∧b=.int .i64 (numOf t)∧c=.string ⟨(txtOf t).toArray⟩∧u=.slice ao (kidsOf t).length cap∧w.ownsRow 0 51 4 (.slice ao (kidsOf t).length cap) (kidsOf t).length xs∧NodesIs w (kidsOf t) (fun k=>S k∧(Value.slice ao (kidsOf t).length cap).ownBlock≠some k) xs:=by
 obtain⟨op,n,s,ao,cap,xs,hnd,rfl,rfl,rfl,rfl,ho,_,hx⟩:=node_form h
 refine⟨ao,cap,xs,?_,?_,?_,rfl,ho,hx⟩ <;> rw[hnd] <;> rfl

set_option maxRecDepth 100000 in
theorem iSoMany (s:List UInt8)(k:Nat)(w:World):Calls Tryz.prog 90 #[.string ⟨s.toArray⟩,.int .i64 k] w fun e w'=>e=.returned (.bool (soMany s k))∧w'=w:=by
 have e1:((k:Int)==1)=decide (k=1):=by by_cases h:k=1 <;> simp[h] <;> omega
 have e2:((k:Int)==2)=decide (k=2):=by by_cases h:k=2 <;> simp[h] <;> omega
 have e3:((k:Int)==3)=decide (k=3):=by by_cases h:k=3 <;> simp[h] <;> omega
 by_cases h1:s=[105,110,100,101,120]
 ·have H:Hid (soMany s k=decide (k=2)):=by show _=_;unfold soMany;rw[if_pos h1]
  subst h1
  go_enter Tryz.func90,Tryz.ntmps90
  go_wp2_with fail;go_ret
  exact⟨by rw[H.out];first|rfl|simp[e2],rfl⟩
 ·by_cases h2:s=[115,117,98,115,116,114]
  ·have H:Hid (soMany s k=(decide (k=2) || decide (k=3))):=by show _=_;unfold soMany;rw[if_neg h1,if_pos h2]
   subst h2
   go_enter Tryz.func90,Tryz.ntmps90
   go_wp2_with fail
   all_goals (go_ret;refine⟨?_,rfl⟩;rw[H.out];simp_all)
  ·have H:Hid (soMany s k=decide (k=1)):=by show _=_;unfold soMany;rw[if_neg h1,if_neg h2]
   have n1:(s==[105,110,100,101,120])=false:=by simpa using h1
   have n2:(s==[115,117,98,115,116,114])=false:=by simpa using h2
   clear h1 h2
   go_enter Tryz.func90,Tryz.ntmps90
   go_wp2_with fail;go_ret
   exact⟨by rw[H.out];first|rfl|simp[e1],rfl⟩

set_option maxRecDepth 100000 in
theorem iArgs1 {W:World}{t:Data}{S:Nat→Prop}{a b c u:Value}(h:NodeIs W t S [a,b,c,u]):
  Calls Tryz.prog 89 #[.agg #[a,b,c,u]] W fun e W'=>e=.returned (.bool (argsB t))∧Below W.heap.size W W':=by
 obtain⟨ao,cap,xs,rfl,rfl,rfl,rfl,-,-⟩:=op_form h
 have call:=iSoMany (txtOf t) (kidsOf t).length;have H:Hid (argsB t=(decide (opOf t=28)&&!soMany (txtOf t) (kidsOf t).length)):=rfl;have hb:∀ o,Below W.heap.size W (W.alloc o):=fun o=>(Below.refl _ W).alloc (Nat.le_refl _) _;generalize argsB t=R at *;generalize soMany (txtOf t) (kidsOf t).length=Q at *
 by_cases h28:opOf t=28
 ·have H2:Hid (R=!Q):=by show _=_;rw[H.out];simp[h28]
  clear H
  rw[h28]
  go_enter Tryz.func89,Tryz.ntmps89
  go_wp2_with (go_at_call 90;refine (call _).mono ?_;rintro e w2 ⟨rfl,rfl⟩)
  go_ret
  exact⟨by rw[H2.out];rfl,hb _⟩
 ·have e1:(opOf t==28)=false:=by simpa using h28
  have H2:Hid (R=false):=by show _=_;rw[H.out];simp[h28]
  clear h28 H
  go_enter Tryz.func89,Tryz.ntmps89
  go_wp2_with fail;go_ret
  exact⟨by rw[H2.out];rfl,hb _⟩

def SenP (w:World):Prop:=∃ a:Addr,w.cell? ⟨2,0,none⟩=some (.iface 286 (.pointer (some a)))
theorem SenP.later {w w':World}(h:SenP w)(hb:Below w.heap.size w w'):SenP w':=by
 obtain⟨a,hc⟩:=h
 exact⟨a,(hb.cell (World.block_lt_of_cell? _ _ hc)).trans hc⟩

set_option maxRecDepth 100000 in
theorem iRex1 {W:World}{t:Data}{S:Nat→Prop}{a b c u:Value}(h:NodeIs W t S [a,b,c,u])(hsz:siz t≤1048576)(hS:SenP W)(h2:opOf t=21→2≤(kidsOf t).length):
  Calls Tryz.prog 91 #[.agg #[a,b,c,u]] W fun e W'=>e=.returned (.bool (rexN t))∧Below W.heap.size W W':=by
 have hlen:=len_siz t;have htl:(txtOf t).length≤1048576:=by
  obtain⟨op,n,s,ks,rfl⟩:=node_node h
  rw[siz_nd] at hsz
  show s.length≤_;omega
 obtain⟨ao,cap,xs,rfl,rfl,rfl,rfl,ho,hx⟩:=op_form h
 have hb:∀ o,Below W.heap.size W (W.alloc o):=fun o=>(Below.refl _ W).alloc (Nat.le_refl _) _
 by_cases h3:opOf t=3
 ·have H:Hid (rexN t=!okRex (txtOf t)):=by show _=_;unfold rexN;rw[if_pos h3]
  have call:∀ w',Below W.heap.size W w'→Calls Tryz.prog 92 #[.string ⟨(txtOf t).toArray⟩] w' fun e w''=>(∃ (rop rc:Int) (rs:ByteArray) (rno:Bool) (rao:Option Addr) (rn rcap:Nat),e=.returned (.tuple #[.agg #[.int .i64 rop,.int .i64 rc,.string rs,.bool rno,.slice rao rn rcap],.bool (okRex (txtOf t))]))∧Below w'.heap.size w' w'':=fun w' hb'=>by
   obtain⟨ad,herr⟩:=hS.later hb'
   refine (Rx.iRexParse ⟨(txtOf t).toArray⟩ ad w' herr (by show ((txtOf t).toArray.size:Int)<_;simp;omega)).mono ?_;intro e w'' hR;unfold okRex;unfold Rx.RexOut at hR
   cases hp:Rx.parseV ⟨(txtOf t).toArray⟩ with
   | none=>rw[hp] at hR;obtain⟨rfl,hb''⟩:=hR;exact⟨⟨_,_,_,_,_,_,_,rfl⟩,hb''⟩
   | some tr =>
    rw[hp] at hR
    obtain⟨a,b,c,d,u,rfl,hb'',hI⟩:=hR
    obtain⟨op,cc,st,no,ks,rfl⟩:=Rx.rex_node hI
    rw[Rx.rex_nd] at hI
    obtain⟨v,ys,he,ho',-⟩:=hI
    simp at he
    obtain⟨rfl,rfl,rfl,rfl,rfl⟩:=he
    obtain⟨ao',cap',rfl⟩:=owns_slice ho'
    exact⟨⟨_,_,_,_,_,_,_,rfl⟩,hb''⟩
  generalize rexN t=R at *;generalize okRex (txtOf t)=Q at *
  rw[h3] at *
  clear ho hx h2
  go_enter Tryz.func91,Tryz.ntmps91
  go_wp2_with (go_at_call 92;refine (call _ (hb _)).mono ?_;rintro e w2 ⟨⟨rop,rc,rst,rno,rao,rn,rcap,rfl⟩,hb2⟩)
  go_ret
  exact⟨by rw[H.out];rfl,((hb _).trans (hb2.mono (hb _).size)).alloc (Nat.le_trans (hb _).size hb2.size) _⟩
 ·have e3:(opOf t==3)=false:=by simpa using h3
  by_cases h21:opOf t=21
  ·have hk2:=h2 h21;have H:Hid (rexN t=decide ((kidsOf t)[1]?.map opOf≠some 3)):=by show _=_;unfold rexN;rw[if_neg h3,if_pos h21]
   have hi:(kidsOf t)[1]?=some (kidsOf t)[1]:=List.getElem?_eq_getElem (by omega)
   obtain⟨S1,y0,y1,y2,y3,c0,c1,c2,c3,hn,-⟩:=nodes_at hx hi
   obtain⟨g,rfl,hg,hc⟩:=row_cells ho (show 1<(kidsOf t).length by omega)
   obtain⟨ao',cap',xs',rfl,rfl,rfl,rfl,-,-⟩:=op_form hn
   have k0:∀ o,(W.alloc o).cell? ⟨g,1*4,none⟩=some (.int .i64 (opOf (kidsOf t)[1])):=fun o=>((hb o).cell (p:=⟨g,1*4,none⟩) hg).trans (hc _ _ c0)
   rw[hi] at H
   have H2:Hid (rexN t=!(opOf (kidsOf t)[1]==3)):=by
    show _=_
    rw[H.out]
    by_cases hq:opOf (kidsOf t)[1]=3 <;> simp[hq]
   have bl:(2:Int)≤(kidsOf t).length:=by omega
   have bl2:((kidsOf t).length:Int)≤1048576:=by omega
   simp only[Nat.one_mul] at k0;generalize opOf (kidsOf t)[1]=o1 at *;generalize rexN t=R at *;clear ho hx h2 hn c0 c1 c2 c3 hc H hi e3 h3 hk2 hlen h;generalize (kidsOf t).length=L at *
   rw[h21]
   have k0':=k0 (.cells #[.int .i64 21,.int .i64 (numOf t),.string ⟨(txtOf t).toArray⟩,.slice (some ⟨g,0,none⟩) L cap] 51)
   go_enter Tryz.func91,Tryz.ntmps91
   go_wp2_with fail;go_ret
   exact⟨by rw[H2.out];rfl,hb _⟩
  ·have H:Hid (rexN t=false):=by show _=_;unfold rexN;rw[if_neg h3,if_neg h21]
   have e21:(opOf t==21)=false:=by simpa using h21
   clear h3 h21 h2 ho hx;generalize rexN t=R at *
   go_enter Tryz.func91,Tryz.ntmps91
   go_wp2_with fail;go_ret
   exact⟨by rw[H.out];rfl,hb _⟩

theorem needK_step (op:Int)(k:Nat)(ks:List Data)(t:Data)(h:ks[k]?=some t):needK op k (ks.drop k)=((decide (opOf t=3)&&!(decide (op=21)&&decide (k=1))) || needK op (k+1) (ks.drop (k+1))):=by
 have hl:=(List.getElem?_eq_some_iff.1 h).1
 rw[List.drop_eq_getElem_cons hl,needK]
 have:ks[k]=t:=by rw[List.getElem?_eq_getElem hl] at h;exact Option.some.inj h
 rw[this]

set_option maxHeartbeats 1000000 in
set_option maxRecDepth 100000 in
theorem iNeeds {W:World}{t:Data}{S:Nat→Prop}{a b c u:Value}(h:NodeIs W t S [a,b,c,u])(hsz:siz t≤1048576):
  Calls Tryz.prog 82 #[.agg #[a,b,c,u]] W fun e W'=>e=.returned (.bool (needN t))∧Below W.heap.size W W':=by
 have hlen:=len_siz t
 obtain⟨ao,cap,xs,rfl,rfl,rfl,rfl,ho,hx⟩:=op_form h
 have hb:∀ o,Below W.heap.size W (W.alloc o):=fun o=>(Below.refl _ W).alloc (Nat.le_refl _) _
 by_cases h6:opOf t=6∨opOf t=7∨opOf t=8∨opOf t=33
 ·have H:Hid (needN t=true):=by show _=_;unfold needN;rw[decide_eq_true h6];rfl
  generalize needN t=R at *;clear ho hx;rcases h6 with h6|h6|h6|h6
  all_goals
   rw[h6] at *
   go_enter Tryz.func82,Tryz.ntmps82
   go_wp2_with fail;go_ret
   exact⟨by rw[H.out];rfl,hb _⟩
 ·have H:Hid (needN t=needK (opOf t) 0 (kidsOf t)):=by show _=_;unfold needN;rw[decide_eq_false h6];rfl
  simp only[not_or] at h6
  obtain⟨n6,n7,n8,n33⟩:=h6
  have f6:(opOf t==6)=false:=by simpa using n6
  have f7:(opOf t==7)=false:=by simpa using n7
  have f8:(opOf t==8)=false:=by simpa using n8
  have f33:(opOf t==33)=false:=by simpa using n33
  have bl:((kidsOf t).length:Int)≤1048576:=by omega
  clear n6 n7 n8 n33;generalize needN t=R at *
  obtain⟨o1,ho1⟩:∃ o1,o1=Obj.cells #[.int .i64 (opOf t),.int .i64 (numOf t),.string ⟨(txtOf t).toArray⟩,.slice ao (kidsOf t).length cap] 51:=⟨_,rfl⟩
  have hbox:(W.alloc o1).cell? ⟨W.heap.size,0,none⟩=some (.int .i64 (opOf t)):=by have hh:=heap_new W o1;unfold World.cell?;simp only[hh];rw[ho1];rfl
  have hb1:=hb o1;subst ho1
  go_enter Tryz.func82,Tryz.ntmps82
  go_wp2_with fail
  go_loopw [15] (fun i wr=>∃ k:Nat,k≤(kidsOf t).length∧i=.int .i64 k∧R=needK (opOf t) k ((kidsOf t).drop k)∧Below W.heap.size W wr∧wr.cell? ⟨W.heap.size,0,none⟩=some (.int .i64 (opOf t))) (fun i _=>(kidsOf t).length - (intOf i).toNat)
  case atStart=>exact⟨0,Nat.zero_le _,rfl,by rw[List.drop_zero];exact H.out,hb1,hbox⟩
  case round =>
   clear hbox hb1 H
   obtain⟨k,hk,rfl,hR,hbr,hbox⟩:=hrel
   by_cases hkl:k<(kidsOf t).length
   ·have hki:(kidsOf t)[k]?=some (kidsOf t)[k]:=List.getElem?_eq_getElem hkl
    rw[needK_step _ _ _ _ hki] at hR
    obtain⟨S1,y0,y1,y2,y3,c0,c1,c2,c3,hn,-⟩:=nodes_at hx hki
    obtain⟨g,rfl,hg,hc⟩:=row_cells ho hkl
    have cc:∀ j x,xs[j]?=some x→wr.cell? ⟨g,j,none⟩=some x:=fun j x hx=>(hbr.cell (p:=⟨g,j,none⟩) hg).trans (hc j x hx);have x0:=cc _ _ c0;have x1:=cc _ _ c1;have x2:=cc _ _ c2;have x3:=cc _ _ c3
    obtain⟨ao',cap',xs',rfl,rfl,rfl,rfl,-,-⟩:=op_form hn
    have hbs:W.heap.size<wr.heap.size:=World.block_lt_of_cell? _ _ hbox;have hbx2:∀ o,(wr.alloc o).cell? ⟨W.heap.size,0,none⟩=some (.int .i64 (opOf t)):=fun o=>(World.cell?_alloc_lt _ _ ⟨W.heap.size,0,none⟩ hbs).trans hbox;have hbr2:∀ o,Below W.heap.size W (wr.alloc o):=fun o=>hbr.alloc hbr.size _;have bk:(k:Int)<(kidsOf t).length:=by omega
    obtain⟨N,hN⟩:∃ N,N=needK (opOf t) (k+1) ((kidsOf t).drop (k+1)):=⟨_,rfl⟩
    have HNN:Hid _:=hN
    rw[← hN] at hR
    clear hN;have ek:((k:Int)==1)=decide (k=1):=by by_cases h:k=1 <;> simp[h] <;> omega
    have HR:Hid _:=hR;have hq:=hbx2 (.cells #[.int .i64 (opOf (kidsOf t)[k]),.int .i64 (numOf (kidsOf t)[k]),.string ⟨(txtOf (kidsOf t)[k]).toArray⟩,.slice ao' (kidsOf (kidsOf t)[k]).length cap'] 51);clear hR hn c0 c1 c2 c3 hc cc hki hbx2 ho hx h;generalize opOf (kidsOf t)[k]=ok at *;generalize numOf (kidsOf t)[k]=nk at *;generalize txtOf (kidsOf t)[k]=tk at *;generalize (kidsOf (kidsOf t)[k]).length=Lk at *
    by_cases q3:ok=3
    ·by_cases q21:opOf t=21
     ·by_cases q1:k=1
      ·have HN:Hid (R=N):=by show _=_;rw[HR.out];simp[q21,q1]
       have ek1:((k:Int)==1)=true:=by rw[ek];simp[q1]
       have et:(opOf t==21)=true:=by simp[q21]
       clear ek HR q21 q1;subst q3;go_wp2_with fail;go_roundw
       case rel=>exact⟨k+1,hkl,by go_num,HN.out.trans HNN.out,hbr2 _,hq⟩
       case measure=>simp[intOf];omega
      ·have HN:Hid (R=true):=by show _=_;rw[HR.out];simp[q3,q1]
       have ek1:((k:Int)==1)=false:=by rw[ek];simp[q1]
       have et:(opOf t==21)=true:=by simp[q21]
       clear ek HR q1 q21;subst q3;go_wp2_with fail;go_ret
       exact⟨by rw[HN.out];rfl,hbr2 _⟩
     ·have HN:Hid (R=true):=by show _=_;rw[HR.out];simp[q3,q21]
      have et:(opOf t==21)=false:=by simp[q21]
      clear ek HR q21;subst q3;go_wp2_with fail;go_ret
      exact⟨by rw[HN.out];rfl,hbr2 _⟩
    ·have HN:Hid (R=N):=by show _=_;rw[HR.out];simp[q3]
     have e3:(ok==3)=false:=by simp[q3]
     clear ek HR q3;go_wp2_with fail;go_roundw
     case rel=>exact⟨k+1,hkl,by go_num,HN.out.trans HNN.out,hbr2 _,hq⟩
     case measure=>simp[intOf];omega
   ·obtain rfl:k=(kidsOf t).length:=by omega
    rw[List.drop_length] at hR
    have HR:Hid _:=hR;clear hR;go_wp2_with fail;go_ret
    exact⟨by rw[HR.out];rfl,hbr⟩

end Ck
namespace Ck
open Nd Ty

theorem set_perm {w:World}{b:Nat}{ns:List (List UInt8)}(h:SetIs w b ns):(ascS ns).Perm (strKeys (Maps.setOf (H:=Unit) (.agg []) (ns.map Lit.string))):=by
 obtain⟨es,hD,hk⟩:=World.ownsMap.keysOf h
 obtain⟨es',hD',hpair⟩:=World.ownsMap.tidy h (Maps.string_keyed Tryz.underlying9)
 obtain rfl:es=es':=by rw[hD] at hD';cases hD';rfl
 rw[hD]
 refine perm_strKeys hpair (fun p hp=>?_) (asc_nodup (ascS_asc ns)) fun x=>?_
 ·obtain⟨key,hkey⟩:=hk p hp
  obtain⟨x,_,hx,_⟩:=Maps.keyOf_str Tryz.underlying9 hkey
  exact⟨x,hx⟩
 ·rw[ascS_mem,← hD,Maps.has_setOf _ _ _ (fun x hx=>by obtain⟨y,_,rfl⟩:=List.mem_map.1 hx;trivial),List.any_eq_true]
  constructor
  ·intro hx
   exact⟨_,List.mem_map.2 ⟨x,hx,rfl⟩,(WideAt.sameKey_iff (by trivial)).2 rfl⟩
  ·rintro⟨y,hy,he⟩
   obtain⟨z,hz,rfl⟩:=List.mem_map.1 hy
   have:=(WideAt.sameKey_iff (by trivial)).1 he
   cases this;exact hz
theorem set_size {w:World}{b:Nat}{ns:List (List UInt8)}(h:SetIs w b ns):Maps.size (Maps.setOf (H:=Unit) (.agg []) (ns.map Lit.string))=(ascS ns).length:=by
 have hp:=(set_perm h).length_eq
 obtain⟨es,hD,_⟩:=World.ownsMap.keysOf h
 rw[hD] at hp ⊢
 rw[hp,Maps.size_eq]
 simp[strKeys]
theorem set_has (ns:List (List UInt8))(x:List UInt8):Maps.has (Maps.setOf (H:=Unit) (.agg []) (ns.map Lit.string)) (.string x)=decide (x∈ns):=by
 rw[Maps.has_setOf _ _ _ (fun x hx=>by obtain⟨y,_,rfl⟩:=List.mem_map.1 hx;trivial)]
 by_cases h:x∈ns
 ·rw[decide_eq_true h,List.any_eq_true]
  exact⟨_,List.mem_map.2 ⟨x,h,rfl⟩,(WideAt.sameKey_iff (by trivial)).2 rfl⟩
 ·rw[decide_eq_false h,List.any_eq_false]
  intro y hy he
  obtain⟨z,hz,rfl⟩:=List.mem_map.1 hy
  have:=(WideAt.sameKey_iff (by trivial)).1 he
  cases this;exact h hz
theorem zeroUnit (w:World):(zeroValue 139).run Tryz.prog w=.ok (.agg #[]) w:=by kernel_rfl

set_option maxRecDepth 100000 in
theorem iTooMany {w:World}{bv bc:Nat}{vn cn:List (List UInt8)}(hv:SetIs w bv vn)(hc:SetIs w bc cn)(hl:vn.length≤2600000)(hl2:cn.length≤2600000):
  Calls Tryz.prog 86 #[.agg #[.map (some bv),.map (some bc)]] w fun e w'=>e=.returned (.bool (decide (8<(ascS vn).length) || decide (8<(ascS cn).length)))∧Below w.heap.size w w':=by
 have h1:=foldl_len vn [];have h2:=foldl_len cn []
 obtain⟨o1,ho1⟩:∃ o1,o1=Obj.cells #[.map (some bv),.map (some bc)] 116:=⟨_,rfl⟩
 have hb:Below w.heap.size w (w.alloc o1):=(Below.refl _ w).alloc (Nat.le_refl _) _;have l1:=World.ownsMap.len (World.ownsMap.alloc hv o1) Tryz.underlying114 3;have l2:=World.ownsMap.len (World.ownsMap.alloc hc o1) Tryz.underlying114 3
 rw[set_size hv] at l1
 rw[set_size hc] at l2
 have b1:(ascS vn).length≤2600000:=by unfold ascS;simp at h1;omega
 have b2:(ascS cn).length≤2600000:=by unfold ascS;simp at h2;omega
 generalize (ascS vn).length=m at *;generalize (ascS cn).length=n at *;have e1:decide (8<m)=decide ((8:Int)<m):=by by_cases h:8<m <;> simp[h] <;> omega
 have e2:decide (8<n)=decide ((8:Int)<n):=by by_cases h:8<n <;> simp[h] <;> omega
 rw[e1,e2]
 have q1:(m:Int)≤2600000:=by omega
 have q2:(n:Int)≤2600000:=by omega
 subst ho1;clear e1 e2 h1 h2 b1 b2 hl hl2 hv hc
 go_enter Tryz.func86,Tryz.ntmps86
 go_wp2_with fail
 all_goals (go_ret;refine⟨?_,hb⟩;simp_all)

set_option maxRecDepth 100000 in
theorem iBoth {w:World}{bv bc:Nat}{vn cn:List (List UInt8)}{s:List UInt8}(hv:SetIs w bv vn)(hc:SetIs w bc cn)(hs:s.length≤1048576):
  Calls Tryz.prog 88 #[.agg #[.map (some bv),.map (some bc)],.string ⟨s.toArray⟩] w fun e w'=>e=.returned (.bool (decide (s∈vn)&&decide (s∈cn)))∧Below w.heap.size w w':=by
 have hkey:=key_of hs;have q1:=set_has vn s;have q2:=set_has cn s
 obtain⟨o1,ho1⟩:∃ o1,o1=Obj.cells #[.map (some bv),.map (some bc)] 116:=⟨_,rfl⟩
 have hv1:SetIs (w.alloc o1) bv vn:=World.ownsMap.alloc hv o1;have hc1:∀ o,SetIs ((w.alloc o1).alloc o) bc cn:=fun o=>World.ownsMap.alloc (World.ownsMap.alloc hc o1) o;have hbx:∀ o,((w.alloc o1).alloc o).cell? ⟨w.heap.size,1,none⟩=some (.map (some bc)):=fun o=>by
  rw[World.cell?_alloc_lt _ _ ⟨w.heap.size,1,none⟩ (by simp)]
  have hh:=heap_new w o1;unfold World.cell?;simp only[hh]
  rw[ho1]
  rfl
 have hbx2:=hbx (.cells #[] 139);have look:∀ (w':World) (b:Nat) (ns:List (List UInt8)),SetIs w' b ns→(Instr.lookup 114 (.map (some b)) (.string ⟨s.toArray⟩) true).run Tryz.prog w'=.ok (.tuple #[.agg #[],.bool (decide (s∈ns))]) w':=fun w' b ns h=>by
  obtain⟨v,ps,hrun,hval⟩:=World.ownsMap.look_ok h (Maps.string_keyed Tryz.underlying9) Tryz.underlying114 (zeroUnit w') (unitElem_mk (H:=Unit)) hkey
  obtain⟨rfl,-⟩:=unitElem_inv hval
  rw[hrun,set_has]
 have k1:=look _ _ _ hv1;have k2:=look _ _ _ (hc1 (.cells #[] 139));have hb2:Below w.heap.size w (((w.alloc o1).alloc (.cells #[] 139)).alloc (.cells #[] 139)):=(((Below.refl _ w).alloc (Nat.le_refl _) _).alloc (by simp) _).alloc (by simp;omega) _;generalize decide (s∈vn)=d1 at *;generalize decide (s∈cn)=d2 at *;subst ho1;clear hbx look q1 q2 hc1 hv1
 go_enter Tryz.func88,Tryz.ntmps88
 go_wp2_with fail
 all_goals (go_ret;refine⟨?_,hb2⟩;simp_all)

def Kinds (bv bc kb:Nat)(p:List Data)(W:World):Prop:=SetIs W bv (varsIn p)∧SetIs W bc (cellsIn p)∧W.heap[kb]?=some (.cells #[.map (some bv),.map (some bc)] 116 (0,0))

set_option maxRecDepth 100000 in
theorem iNames1 {W:World}{bv bc kb:Nat}{p:List Data}{t:Data}{S:Nat→Prop}{a b c u:Value}(hK:Kinds bv bc kb p W)(hne:bv≠bc)(hk1:kb≠bv)(hk2:kb≠bc)(h:NodeIs W t S [a,b,c,u])(hsz:siz t≤1048576)(hp:p.length≤2500000):
  Calls Tryz.prog 84 #[.agg #[a,b,c,u],.pointer (some ⟨kb,0,none⟩)] W fun e W'=>e=.returned (.bool (tooMany (p++[t])))∧Kinds bv bc kb (p++[t]) W'∧Fr (fun k=>k=bv∨k=bc) W W':=by
 obtain⟨hv,hc,hb⟩:=hK
 have htl:(txtOf t).length≤1048576:=by
  obtain⟨op,n,s,ks,rfl⟩:=node_node h
  rw[siz_nd] at hsz
  show s.length≤_;omega
 have hl1:=varsIn_len p;have hl2:=cellsIn_len p
 obtain⟨ao,cap,xs,rfl,rfl,rfl,rfl,-,-⟩:=op_form h
 obtain⟨o1,ho1⟩:∃ o1,o1=Obj.cells #[.int .i64 (opOf t),.int .i64 (numOf t),.string ⟨(txtOf t).toArray⟩,.slice ao (kidsOf t).length cap] 51:=⟨_,rfl⟩
 have hb1:Below W.heap.size W (W.alloc o1):=(Below.refl _ W).alloc (Nat.le_refl _) _;have hkb:(W.alloc o1).heap[kb]?=some (.cells #[.map (some bv),.map (some bc)] 116 (0,0)):=(hb1.block kb (heap_lt hb)).trans hb;have k0:(W.alloc o1).cell? ⟨kb,0,none⟩=some (.map (some bv)):=by simp[World.cell?,hkb]
 have k1:(W.alloc o1).cell? ⟨kb,1,none⟩=some (.map (some bc)):=by simp[World.cell?,hkb]
 have call1:=iTake (op:=opOf t) (n:=numOf t) (ao:=ao) (L:=(kidsOf t).length) (cap:=cap) (hv.same (hb1.block _ hv.lt)) (hc.same (hb1.block _ hc.lt)) hne htl (by omega) (by omega);have evs:varsIn p++varsT (opOf t) (txtOf t)=varsIn (p++[t]):=by rw[varsIn_append,varsIn_one]
 have ecs:cellsIn p++cellsT (opOf t) (txtOf t)=cellsIn (p++[t]):=by rw[cellsIn_append,cellsIn_one]
 rw[evs,ecs] at call1
 have call2:=fun (w':World) (h1:SetIs w' bv (varsIn (p++[t]))) (h2:SetIs w' bc (cellsIn (p++[t])))=>iTooMany h1 h2 (by have:=varsIn_len (p++[t]);simp at this;omega) (by have:=cellsIn_len (p++[t]);simp at this;omega);have hF1:Fr (fun k=>k=bv∨k=bc) W (W.alloc o1):=fr_below hb1;have HT:Hid (tooMany (p++[t])=(decide (8<(ascS (varsIn (p++[t]))).length) || decide (8<(ascS (cellsIn (p++[t]))).length))):=rfl;have hkbl:=heap_lt hkb;generalize tooMany (p++[t])=R at *;generalize (decide (8<(ascS (varsIn (p++[t]))).length) || decide (8<(ascS (cellsIn (p++[t]))).length))=Q at *;have hend:∀ w3,SetIs w3 bv (varsIn (p++[t]))→SetIs w3 bc (cellsIn (p++[t]))→Fr (fun k=>k=bv∨k=bc) (W.alloc o1) w3→∀ w4,Below w3.heap.size w3 w4→Kinds bv bc kb (p++[t]) w4∧Fr (fun k=>k=bv∨k=bc) W w4:=fun w3 h1 h2 h3 w4 h4 =>
  ⟨⟨h1.same (h4.block _ h1.lt),h2.same (h4.block _ h2.lt),(h4.block kb (Nat.lt_of_lt_of_le hkbl h3.size)).trans ((h3.block kb hkbl (by omega)).trans hkb)⟩,(hF1.trans h3).trans (fr_below h4)⟩
 have hcell:∀ w3,Fr (fun k=>k=bv∨k=bc) (W.alloc o1) w3→w3.cell? ⟨kb,0,none⟩=some (.map (some bv))∧w3.cell? ⟨kb,1,none⟩=some (.map (some bc)):=fun w3 h3=>by
  have:=(h3.block kb hkbl (by omega)).trans hkb
  simp[World.cell?,this]
 subst ho1;clear h hv hc hb hb1 hkb evs ecs hF1
 go_enter Tryz.func84,Tryz.ntmps84
 go_wp2_with (first
  | (go_at_call 85;refine call1.mono ?_;rintro e w3 ⟨⟨rv,rfl⟩,s1,s2,s3⟩;obtain⟨q0,q1⟩:=hcell w3 s3)
  | (go_at_call 86;refine (call2 _ s1 s2).mono ?_;rintro e w4 ⟨rfl,hb4⟩))
 go_ret
 exact⟨by rw[HT.out];rfl,hend w3 s1 s2 s3 w4 hb4⟩

set_option maxRecDepth 100000 in
theorem iKind1 {W:World}{bv bc kb:Nat}{p:List Data}{t:Data}{S:Nat→Prop}{a b c u:Value}(hK:Kinds bv bc kb p W)(hne:bv≠bc)(hk1:kb≠bv)(hk2:kb≠bc)(h:NodeIs W t S [a,b,c,u])(hsz:siz t≤1048576)(hp:p.length≤2500000):
  Calls Tryz.prog 87 #[.agg #[a,b,c,u],.pointer (some ⟨kb,0,none⟩)] W fun e W'=>e=.returned (.bool (bothB (p++[t])))∧Kinds bv bc kb (p++[t]) W'∧Fr (fun k=>k=bv∨k=bc) W W':=by
 obtain⟨hv,hc,hb⟩:=hK
 have htl:(txtOf t).length≤1048576:=by
  obtain⟨op,n,s,ks,rfl⟩:=node_node h
  rw[siz_nd] at hsz
  show s.length≤_;omega
 have hl1:=varsIn_len p;have hl2:=cellsIn_len p
 obtain⟨ao,cap,xs,rfl,rfl,rfl,rfl,-,-⟩:=op_form h
 obtain⟨o1,ho1⟩:∃ o1,o1=Obj.cells #[.int .i64 (opOf t),.int .i64 (numOf t),.string ⟨(txtOf t).toArray⟩,.slice ao (kidsOf t).length cap] 51:=⟨_,rfl⟩
 have hb1:Below W.heap.size W (W.alloc o1):=(Below.refl _ W).alloc (Nat.le_refl _) _;have hnb:(W.alloc o1).heap[W.heap.size]?=some o1:=heap_new W o1;have hkb:(W.alloc o1).heap[kb]?=some (.cells #[.map (some bv),.map (some bc)] 116 (0,0)):=(hb1.block kb (heap_lt hb)).trans hb;have k0:(W.alloc o1).cell? ⟨kb,0,none⟩=some (.map (some bv)):=by simp[World.cell?,hkb]
 have k1:(W.alloc o1).cell? ⟨kb,1,none⟩=some (.map (some bc)):=by simp[World.cell?,hkb]
 have hvl:=hv.lt;have hcl:=hc.lt;have call1:=iTake (op:=opOf t) (n:=numOf t) (ao:=ao) (L:=(kidsOf t).length) (cap:=cap) (hv.same (hb1.block _ hv.lt)) (hc.same (hb1.block _ hc.lt)) hne htl (by omega) (by omega);have evs:varsIn p++varsT (opOf t) (txtOf t)=varsIn (p++[t]):=by rw[varsIn_append,varsIn_one]
 have ecs:cellsIn p++cellsT (opOf t) (txtOf t)=cellsIn (p++[t]):=by rw[cellsIn_append,cellsIn_one]
 rw[evs,ecs] at call1
 have call2:=fun (w':World) (h1:SetIs w' bv (varsIn (p++[t]))) (h2:SetIs w' bc (cellsIn (p++[t])))=>iBoth h1 h2 htl;have hF1:Fr (fun k=>k=bv∨k=bc) W (W.alloc o1):=fr_below hb1;have HT:Hid (bothB (p++[t])=(decide (txtOf t∈varsIn (p++[t]))&&decide (txtOf t∈cellsIn (p++[t])))):=both_snoc p t;have hkbl:=heap_lt hkb;generalize bothB (p++[t])=R at *;generalize (decide (txtOf t∈varsIn (p++[t]))&&decide (txtOf t∈cellsIn (p++[t])))=Q at *;have hend:∀ w3,SetIs w3 bv (varsIn (p++[t]))→SetIs w3 bc (cellsIn (p++[t]))→Fr (fun k=>k=bv∨k=bc) (W.alloc o1) w3→∀ w4,Below w3.heap.size w3 w4→Kinds bv bc kb (p++[t]) w4∧Fr (fun k=>k=bv∨k=bc) W w4:=fun w3 h1 h2 h3 w4 h4 =>
  ⟨⟨h1.same (h4.block _ h1.lt),h2.same (h4.block _ h2.lt),(h4.block kb (Nat.lt_of_lt_of_le hkbl h3.size)).trans ((h3.block kb hkbl (by omega)).trans hkb)⟩,(hF1.trans h3).trans (fr_below h4)⟩
 have hcell:∀ w3,Fr (fun k=>k=bv∨k=bc) (W.alloc o1) w3→w3.cell? ⟨kb,0,none⟩=some (.map (some bv))∧w3.cell? ⟨kb,1,none⟩=some (.map (some bc))∧w3.cell? ⟨W.heap.size,2,none⟩=some (.string ⟨(txtOf t).toArray⟩):=fun w3 h3=>by
  have h1:=(h3.block kb hkbl (by omega)).trans hkb;have h2:=(h3.block W.heap.size (by simp) (by omega)).trans hnb
  refine⟨by simp[World.cell?,h1],by simp[World.cell?,h1],?_⟩
  unfold World.cell?;simp only[h2]
  rw[ho1]
  rfl
 subst ho1;clear h hv hc hb hb1 hkb evs ecs hF1 hnb
 go_enter Tryz.func87,Tryz.ntmps87
 go_wp2_with (first
  | (go_at_call 85;refine call1.mono ?_;rintro e w3 ⟨⟨rv,rfl⟩,s1,s2,s3⟩;obtain⟨q0,q1,q2⟩:=hcell w3 s3)
  | (go_at_call 88;refine (call2 _ s1 s2).mono ?_;rintro e w4 ⟨rfl,hb4⟩))
 go_ret
 exact⟨by rw[HT.out];rfl,hend w3 s1 s2 s3 w4 hb4⟩

end Ck
namespace Ck
open Nd Ty

def Found (code:Int)(bad:Prop)(w:World)(e:Ending)(w':World):Prop :=
 ((e=.returned .nilIface∧¬ bad)∨(∃ r:Nat,e=.returned (.iface 82 (.agg #[.int .i64 code,.int .i64 r])))∧bad)∧Below w.heap.size w w'

theorem found_of {code:Int}{q:List Data→Bool}{l:List Data}{bad:Prop}{w w':World}{e:Ending}(hb:(∃ p,p≠[]∧p <+: l∧q p=true)↔bad)(hB:Below w.heap.size w w')
  (h:(e=.returned .nilIface∧∀ p,p≠[]→p <+: l→q p=false)∨(∃ r:Nat,e=.returned (.iface 82 (.agg #[.int .i64 code,.int .i64 r])))∧∃ p,p≠[]∧p <+: l∧q p=true):Found code bad w e w':=by
 refine⟨?_,hB⟩
 rcases h with ⟨he,h⟩|⟨he,h⟩
 ·refine .inl ⟨he,fun hbad=>?_⟩
  obtain⟨p,a1,a2,a3⟩:=hb.2 hbad
  rw[h p a1 a2] at a3
  cases a3
 ·exact .inr ⟨he,hb.1 h⟩
theorem Found.nil {code:Int}{P:Prop}{w w':World}(hB:Below w.heap.size w w')(h:¬ P):Found code P w (.returned .nilIface) w':=⟨.inl ⟨rfl,h⟩,hB⟩
theorem Found.some {code:Int}{P:Prop}{w w':World}(hB:Below w.heap.size w w')(r:Nat)(h:P):Found code P w (.returned (.iface 82 (.agg #[.int .i64 code,.int .i64 r]))) w':=⟨.inr ⟨⟨r,rfl⟩,h⟩,hB⟩
theorem fr_none {w w':World}(h:Fr (fun _=>False) w w'):Below w.heap.size w w':=⟨h.os,h.tape,h.output,h.size,fun k hk=>h.block k hk id⟩

theorem asksArgs (w:World)(rs:List Ru):Asks w rs (fun _=>False) (fun _ _=>True) (lastB argsB) 89 #[] where
 own:=fun _ _ _ _ _ _=>trivial
 call:=fun pre t S a b c u W _ _ _ hn _ _ _=>by
  refine (iArgs1 hn).mono ?_;rintro e W' ⟨rfl,hb⟩
  exact⟨by rw[last_snoc],trivial,fr_below hb,fun k hk=>hk.elim⟩
theorem asksNeeds (w:World)(rs:List Ru):Asks w rs (fun _=>False) (fun _ _=>True) (lastB needN) 82 #[] where
 own:=fun _ _ _ _ _ _=>trivial
 call:=fun pre t S a b c u W _ _ _ hn _ hz _=>by
  refine (iNeeds hn hz).mono ?_;rintro e W' ⟨rfl,hb⟩
  exact⟨by rw[last_snoc],trivial,fr_below hb,fun k hk=>hk.elim⟩
theorem asksRex {w:World}{rs:List Ru}(hG:2<w.heap.size)(hT:∀ t,SubR rs t→opOf t=21→2≤(kidsOf t).length):Asks w rs (fun _=>False) (fun _ W=>SenP W) (lastB rexN) 91 #[] where
 own:=fun _ A A' h _ hk=>by
  obtain⟨a,hc⟩:=h
  exact⟨a,(World.cell?_of_block (hk _ hG)).trans hc⟩
 call:=fun pre t S a b c u W hS _ _ hn _ hz hm=>by
  refine (iRex1 hn hz hS (hT t hm)).mono ?_;rintro e W' ⟨rfl,hb⟩
  exact⟨by rw[last_snoc],hS.later hb,fr_below hb,fun k hk=>hk.elim⟩

section
variable {rs : List Ru} {w : World} {S : Nat → Prop} {v : Value} {xs : List Value} {B : Nat}

set_option maxRecDepth 100000 in
theorem iArgsF (hsz:sizR rs≤1048576)(ho:w.ownsRow B 53 9 v rs.length xs)(hr:RulesAp w rs S xs):Calls Tryz.prog 53 #[v] w (Found 5 (∃ t∈allOf rs,argsB t=true) w):=by
 obtain⟨ao,cap,rfl⟩:=owns_slice ho
 have call:=iAmissWhere (code:=5) hsz ho hr (fun k hk=>hk.elim) (asksArgs w rs) (enters_of Tryz.func89 (by kernel_rfl) rfl) trivial;have hany:=any_last argsB (allOf rs);generalize (∃ t∈allOf rs,argsB t=true)=P at *;clear hsz ho hr
 go_enter Tryz.func53,Tryz.ntmps53
 go_wp2_with (go_at_call 81;refine hold ?_)
 refine call.mono ?_;rintro e w' ⟨hF,hres⟩;have hB:=fr_none hF
 obtain⟨⟨hn,hn'⟩|⟨⟨r,rfl⟩,hp⟩,-⟩:=found_of hany hB hres
 ·subst hn;clear hany call hF hres;go_wp2_with fail;go_ret;exact Found.nil hB hn'
 ·clear hany call hF hres;go_wp2_with fail;go_ret;exact Found.some hB r hp

set_option maxRecDepth 100000 in
theorem iRexF (hsz:sizR rs≤1048576)(ho:w.ownsRow B 53 9 v rs.length xs)(hr:RulesAp w rs S xs)(hS:SenP w)(hT:∀ t,SubR rs t→opOf t=21→2≤(kidsOf t).length):Calls Tryz.prog 54 #[v] w (Found 6 (∃ t∈allOf rs,rexN t=true) w):=by
 obtain⟨ao,cap,rfl⟩:=owns_slice ho
 have hG:2<w.heap.size:=by obtain⟨a,hc⟩:=hS;exact World.block_lt_of_cell? _ _ hc
 have call:=iAmissWhere (code:=6) hsz ho hr (fun k hk=>hk.elim) (asksRex hG hT) (enters_of Tryz.func91 (by kernel_rfl) rfl) hS;have hany:=any_last rexN (allOf rs);generalize (∃ t∈allOf rs,rexN t=true)=P at *;clear hsz ho hr hT
 go_enter Tryz.func54,Tryz.ntmps54
 go_wp2_with (go_at_call 81;refine hold ?_)
 refine call.mono ?_;rintro e w' ⟨hF,hres⟩;have hB:=fr_none hF
 obtain⟨⟨hn,hn'⟩|⟨⟨r,rfl⟩,hp⟩,-⟩:=found_of hany hB hres
 ·subst hn;clear hany call hF hres;go_wp2_with fail;go_ret;exact Found.nil hB hn'
 ·clear hany call hF hres;go_wp2_with fail;go_ret;exact Found.some hB r hp

set_option maxRecDepth 100000 in
theorem iNamesF (hsz:sizR rs≤1048576)(ho:w.ownsRow B 53 9 v rs.length xs)(hr:RulesAp w rs S xs):Calls Tryz.prog 51 #[v] w (Found 3 (tooMany (allOf rs)=true) w):=by
 obtain⟨ao,cap,rfl⟩:=owns_slice ho
 have call:∀ w1,Below w.heap.size w w1→SetIs w1 (w.heap.size+1) []→SetIs w1 (w.heap.size+2) []→w1.heap.size=w.heap.size+3→Calls Tryz.prog 81 #[.slice ao rs.length cap,.int .i64 3,.func (.func 84) #[] #[.pointer (some ⟨w.heap.size+3,0,none⟩)]] (w1.alloc (.cells #[.map (some (w.heap.size+1)),.map (some (w.heap.size+2))] 116)) fun e w'=>Found 3 (tooMany (allOf rs)=true) w e w':=by
  intro w1 hb1 s1 s2 hs1
  obtain⟨w2,hw2⟩:∃ w2,w2=w1.alloc (.cells #[.map (some (w.heap.size+1)),.map (some (w.heap.size+2))] 116):=⟨_,rfl⟩
  have hb2:Below w1.heap.size w1 w2:=by rw[hw2];exact (Below.refl _ w1).alloc (Nat.le_refl _) _
  have hbw:Below w.heap.size w w2:=hb1.trans (hb2.mono hb1.size);have hsz2:w2.heap.size=w.heap.size+4:=by simp[hw2,hs1]
  have hk:w2.heap[w.heap.size+3]?=some (.cells #[.map (some (w.heap.size+1)),.map (some (w.heap.size+2))] 116 (0,0)):=by rw[hw2,← hs1];exact heap_new _ _
  have t1:=s1.same (hb2.block _ s1.lt);have t2:=s2.same (hb2.block _ s2.lt);have hapw:=ap_frame (w':=w2) (fun k hk=>hbw.block k (by obtain⟨cur,hc⟩:=hk.2;exact heap_lt hc)) (ap_cells hr);have how:=owns_same (w':=w2) ho fun g hg=>hbw.block g (ho.lt g hg).2;have hQ:Asks w2 rs (fun k=>k=w.heap.size+1∨k=w.heap.size+2) (Kinds (w.heap.size+1) (w.heap.size+2) (w.heap.size+3)) tooMany 84 #[.pointer (some ⟨w.heap.size+3,0,none⟩)]:={
   own:=fun s A A' h _ hk=>⟨h.1.same (hk _ (by omega)),h.2.1.same (hk _ (by omega)),(hk _ (by omega)).trans h.2.2⟩
   call:=fun pre t S' a b c u W hK _ hp hn _ hz _=>by
    refine (iNames1 hK (by omega) (by omega) (by omega) hn hz hp).mono ?_;rintro e W' ⟨rfl,hK',hF⟩
    exact⟨rfl,hK',hF,fun k hk=>hk.elim (fun e=>e ▸ hK'.1.not) (fun e=>e ▸ hK'.2.1.not)⟩ }
  rw[← hw2]
  refine (iAmissWhere (code:=3) hsz how hapw (fun k hk=>?_) hQ (enters_of Tryz.func84 (by kernel_rfl) rfl) ⟨t1,t2,hk⟩).mono ?_
  ·rcases hk with rfl|rfl
   ·exact⟨by omega,t1.not,fun e=>by have:=(ho.lt _ e).2;omega⟩
   ·exact⟨by omega,t2.not,fun e=>by have:=(ho.lt _ e).2;omega⟩
  ·rintro e w' ⟨hF,hres⟩;have hsF:=hF.size;exact found_of (any_many (allOf rs)) ⟨hF.os.trans hbw.os,hF.tape.trans hbw.tape,hF.output.trans hbw.output,by omega,fun k hk=>(hF.block k (by omega) (by omega)).trans (hbw.block k hk)⟩ hres
 generalize (tooMany (allOf rs)=true)=P at *;clear hsz ho hr
 go_enter Tryz.func51,Tryz.ntmps51
 go_wp2_with (first
  | (go_at_call 83;refine (iNewKinds w).mono ?_;rintro e w1 ⟨rfl,s1,s2,hs1,hb1⟩)
  | (go_at_call 81;refine hold ?_))
 refine (call w1 hb1 s1 s2 hs1).mono ?_;rintro e w' ⟨⟨hn,hn'⟩|⟨⟨r,rfl⟩,hp⟩,hB⟩
 ·subst hn;clear call;go_wp2_with fail;go_ret;exact Found.nil hB hn'
 ·clear call;go_wp2_with fail;go_ret;exact Found.some hB r hp

set_option maxRecDepth 100000 in
theorem iKindF (hsz:sizR rs≤1048576)(ho:w.ownsRow B 53 9 v rs.length xs)(hr:RulesAp w rs S xs):Calls Tryz.prog 52 #[v] w (Found 4 (bothAll (allOf rs)) w):=by
 obtain⟨ao,cap,rfl⟩:=owns_slice ho
 have call:∀ w1,Below w.heap.size w w1→SetIs w1 (w.heap.size+1) []→SetIs w1 (w.heap.size+2) []→w1.heap.size=w.heap.size+3→Calls Tryz.prog 81 #[.slice ao rs.length cap,.int .i64 4,.func (.func 87) #[] #[.pointer (some ⟨w.heap.size+3,0,none⟩)]] (w1.alloc (.cells #[.map (some (w.heap.size+1)),.map (some (w.heap.size+2))] 116)) fun e w'=>Found 4 (bothAll (allOf rs)) w e w':=by
  intro w1 hb1 s1 s2 hs1
  obtain⟨w2,hw2⟩:∃ w2,w2=w1.alloc (.cells #[.map (some (w.heap.size+1)),.map (some (w.heap.size+2))] 116):=⟨_,rfl⟩
  have hb2:Below w1.heap.size w1 w2:=by rw[hw2];exact (Below.refl _ w1).alloc (Nat.le_refl _) _
  have hbw:Below w.heap.size w w2:=hb1.trans (hb2.mono hb1.size);have hsz2:w2.heap.size=w.heap.size+4:=by simp[hw2,hs1]
  have hk:w2.heap[w.heap.size+3]?=some (.cells #[.map (some (w.heap.size+1)),.map (some (w.heap.size+2))] 116 (0,0)):=by rw[hw2,← hs1];exact heap_new _ _
  have t1:=s1.same (hb2.block _ s1.lt);have t2:=s2.same (hb2.block _ s2.lt);have hapw:=ap_frame (w':=w2) (fun k hk=>hbw.block k (by obtain⟨cur,hc⟩:=hk.2;exact heap_lt hc)) (ap_cells hr);have how:=owns_same (w':=w2) ho fun g hg=>hbw.block g (ho.lt g hg).2;have hQ:Asks w2 rs (fun k=>k=w.heap.size+1∨k=w.heap.size+2) (Kinds (w.heap.size+1) (w.heap.size+2) (w.heap.size+3)) bothB 87 #[.pointer (some ⟨w.heap.size+3,0,none⟩)]:={
   own:=fun s A A' h _ hk=>⟨h.1.same (hk _ (by omega)),h.2.1.same (hk _ (by omega)),(hk _ (by omega)).trans h.2.2⟩
   call:=fun pre t S' a b c u W hK _ hp hn _ hz _=>by
    refine (iKind1 hK (by omega) (by omega) (by omega) hn hz hp).mono ?_;rintro e W' ⟨rfl,hK',hF⟩
    exact⟨rfl,hK',hF,fun k hk=>hk.elim (fun e=>e ▸ hK'.1.not) (fun e=>e ▸ hK'.2.1.not)⟩ }
  rw[← hw2]
  refine (iAmissWhere (code:=4) hsz how hapw (fun k hk=>?_) hQ (enters_of Tryz.func87 (by kernel_rfl) rfl) ⟨t1,t2,hk⟩).mono ?_
  ·rcases hk with rfl|rfl
   ·exact⟨by omega,t1.not,fun e=>by have:=(ho.lt _ e).2;omega⟩
   ·exact⟨by omega,t2.not,fun e=>by have:=(ho.lt _ e).2;omega⟩
  ·rintro e w' ⟨hF,hres⟩;have hsF:=hF.size;exact found_of (any_both (allOf rs)) ⟨hF.os.trans hbw.os,hF.tape.trans hbw.tape,hF.output.trans hbw.output,by omega,fun k hk=>(hF.block k (by omega) (by omega)).trans (hbw.block k hk)⟩ hres
 generalize (bothAll (allOf rs))=P at *;clear hsz ho hr
 go_enter Tryz.func52,Tryz.ntmps52
 go_wp2_with (first
  | (go_at_call 83;refine (iNewKinds w).mono ?_;rintro e w1 ⟨rfl,s1,s2,hs1,hb1⟩)
  | (go_at_call 81;refine hold ?_))
 refine (call w1 hb1 s1 s2 hs1).mono ?_;rintro e w' ⟨⟨hn,hn'⟩|⟨⟨r,rfl⟩,hp⟩,hB⟩
 ·subst hn;clear call;go_wp2_with fail;go_ret;exact Found.nil hB hn'
 ·clear call;go_wp2_with fail;go_ret;exact Found.some hB r hp
end

end Ck
end Go.Proofs.YtllbachngocmnaaGreatDoor
