/-
  The program's Names.
-/
import Derived.Shelf.RegionOpen
import Derived.Test.YtllbachngocmnaaGreatDoorP37
import Derived.Test.YtllbachngocmnaaGreatDoorP39
namespace Go.Proofs.YtllbachngocmnaaGreatDoor
open Go.RowKit
namespace Ck
open Nd Ty
attribute [local go_sem] Oper.semAt_some

theorem set_sort {w:World}{b:Nat}{ns ss:List (List UInt8)}(h:SetIs w b ns)(hp:ss.Perm (strKeys (Maps.setOf (H:=Unit) (.agg []) (ns.map Lit.string)))):ss.mergeSort leB=ascS ns∧ss.length=(ascS ns).length:=by
 obtain⟨es,hD,hk⟩:=World.ownsMap.keysOf h
 obtain⟨es',hD',hpair⟩:=World.ownsMap.tidy h (Maps.string_keyed Tryz.underlying9)
 obtain rfl:es=es':=by rw[hD] at hD';cases hD';rfl
 have hperm:(ascS ns).Perm (strKeys (Maps.setOf (H:=Unit) (.agg []) (ns.map Lit.string))):=by
  rw[hD]
  refine perm_strKeys hpair (fun p hp=>?_) (asc_nodup (ascS_asc ns)) fun x=>?_
  ·obtain⟨key,hkey⟩:=hk p hp
   obtain⟨x,_,hx,_⟩:=Maps.keyOf_str Tryz.underlying9 hkey
   exact⟨x,hx⟩
  ·rw[ascS_mem,← hD,Maps.has_setOf _ _ _ (fun x hx=>by obtain⟨y,_,rfl⟩:=List.mem_map.1 hx;trivial),List.any_eq_true]
   constructor
   ·intro hx
    exact⟨_,List.mem_map.2 ⟨x,hx,rfl⟩,(WideAt.sameKey_iff (by trivial)).2 rfl⟩
   ·rintro⟨y,hy,he⟩
    obtain⟨z,hz,rfl⟩:=List.mem_map.1 hy
    have:=(WideAt.sameKey_iff (by trivial)).1 he
    cases this;exact hz
 have hss:=hp.trans hperm.symm
 refine⟨?_,hss.length_eq⟩
 rw[mergeSort_of_perm hss]
 exact List.mergeSort_of_pairwise ((ascS_asc ns).imp fun {a b} h=>by simp only[leB,decide_eq_true_eq];exact List.le_of_lt h)

set_option maxHeartbeats 800000 in
set_option maxRecDepth 100000 in
theorem iNames {rs:List Ru}{w:World}{S:Nat→Prop}{v:Value}{xs:List Value}{B:Nat}(hsz:sizR rs≤1048576)(ho:w.ownsRow B 53 9 v rs.length xs)(hr:RulesAp w rs S xs):
  Calls Tryz.prog 56 #[v] w fun e w'=>∃ v1 v2,e=.returned (.tuple #[v1,v2])∧w'.ownsRow w.heap.size 9 1 v1 (ascS (varsIn (allOf rs))).length ((ascS (varsIn (allOf rs))).map encStr)∧w'.ownsRow w.heap.size 9 1 v2 (ascS (cellsIn (allOf rs))).length ((ascS (cellsIn (allOf rs))).map encStr)∧(∀ k,v1.ownBlock=some k→v2.ownBlock≠some k)∧Below w.heap.size w w':=by
 obtain⟨ao,cap,rfl⟩:=owns_slice ho
 refine (callsIn_wide (n:=6)).1 ?_;have h1n:1≤6:=by omega
 have hfN:Fence.wide.fn 83:=trivial;have hfE:Fence.wide.fn 97:=trivial;refine callsIn_of_wp_marks Tryz.func56 rfl trivial ?_ rfl;simp only[Tryz.ntmps56,List.size_toArray,List.length_cons,List.length_nil,Nat.reduceAdd,Nat.reduceSub,Array.replicate_succ,Array.replicate_zero,List.push_toArray,List.append_toArray,List.nil_append,List.cons_append]
 gi_wp2_with (first
  | (gi_at_call 83;refine (callsIn_wide.2 (iNewKinds w)).mono ?_;rintro e w1 ⟨rfl,s1,s2,hs1,hb1⟩)
  | (gi_at_call 97;refine (callsIn_wide.2 (iEachNode _ _ _ _)).mono ?_;rintro e w2 ⟨rfl,rfl⟩))
 obtain⟨W0,hW0⟩:∃ W0,W0=(w1.alloc (.cells #[.map (some (w.heap.size+1)),.map (some (w.heap.size+2))] 116)).alloc (.cells #[.slice ao rs.length cap] 30):=⟨_,rfl⟩
 have hb10:Below w1.heap.size w1 W0:=by rw[hW0];exact ((Below.refl _ w1).alloc (Nat.le_refl _) _).alloc (by simp) _
 have hbW:Below w.heap.size w W0:=hb1.trans (hb10.mono (by omega));have hsW:W0.heap.size=w.heap.size+5:=by rw[hW0];simp;omega
 have t1:SetIs W0 (w.heap.size+1) []:=s1.same (hb10.block _ s1.lt);have t2:SetIs W0 (w.heap.size+2) []:=s2.same (hb10.block _ s2.lt);have hkb:W0.heap[w.heap.size+3]?=some (.cells #[.map (some (w.heap.size+1)),.map (some (w.heap.size+2))] 116 (0,0)):=by
  rw[hW0,Below.heap_alloc _ _ _ (by simp;omega),← hs1]
  exact heap_new _ _
 have hbl:W0.heap[w.heap.size+3+1]?=some (.cells #[.slice ao rs.length cap] 30 (0,0)):=by
  have:=heap_new (w1.alloc (.cells #[.map (some (w.heap.size+1)),.map (some (w.heap.size+2))] 116)) (.cells #[.slice ao rs.length cap] 30)
  rw[World.size_alloc,hs1] at this
  rw[hW0]
  exact this
 have hlt:∀ k,(S k∧Cellsy w k)→k<w.heap.size:=fun k hk=>by obtain⟨cur,hc⟩:=hk.2;exact heap_lt hc
 have hapW:=ap_frame (fun k hk=>hbW.block k (hlt k hk)) (ap_cells hr);have hcyW:∀ k,(S k∧Cellsy w k)→Cellsy W0 k:=fun k hk=>by have:=hlt k hk;obtain⟨cur,hc⟩:=hk.2;exact⟨cur,(hbW.block k this).trans hc⟩
 have hoW:W0.ownsRow B 53 9 (.slice ao rs.length cap) rs.length xs:=owns_same ho fun g hg=>hbW.block g (ho.lt g hg).2;have hSx:∀ k,(k=w.heap.size+1∨k=w.heap.size+2)→k<W0.heap.size∧¬ Cellsy W0 k∧(Value.slice ao rs.length cap).ownBlock≠some k:=by
  rintro k (rfl|rfl)
  ·exact⟨by omega,t1.not,fun e=>by have:=(ho.lt _ e).2;omega⟩
  ·exact⟨by omega,t2.not,fun e=>by have:=(ho.lt _ e).2;omega⟩
 have hSl:∀ k,(k=w.heap.size+1∨k=w.heap.size+2)→k<W0.heap.size:=fun k hk=>(hSx k hk).1;have hvl:=visit_len 0 rs;have hseq:=nodes_stops (n:=5) hsz hbl hoW hapW hcyW hSx (by omega)
 rw[← hW0]
 clear hW0 hapW hcyW hoW hlt hbl hb10 s1 s2;refine wpIn_rangeFunc_ownH rfl h1n (gf:=134) (lb:=#[.pointer (some ⟨w.heap.size+3+1,0,none⟩)]) rfl trivial (enters_of Tryz.func134 (by kernel_rfl) rfl) hseq (fun h k=>h.trans k) (Keep.put hSl) (Below.refl _ _) (fun _=>rfl)
  (Has W0 (w.heap.size+1) (w.heap.size+2)) (fun _ _ _=>False) (has_own (by omega) (by omega)) (fun _ _ _ _ _ hs _ _=>hs) ⟨by simpa [varsIn] using t1,by simpa [cellsIn] using t2,Fr.refl _ _⟩
  (fun x a' W=>∃ Bx,W0.heap.size≤Bx∧W.heap[Bx]?=some (.cells #[x.a,x.b,x.c,x.u] 51 (0,0))∧a'={ tmps:=#[.slice ao rs.length cap,undef,.slice none 0 0,.slice none 0 0,.pointer (some ⟨w.heap.size+3,0,none⟩),undef,.pointer (some ⟨Bx,0,none⟩),.agg #[.map (some (w.heap.size+1)),.map (some (w.heap.size+2))],.slice ao rs.length cap,.func (.func 134) #[] #[.pointer (some ⟨w.heap.size+3+1,0,none⟩)],.int .i64 x.rule,.agg #[x.a,x.b,x.c,x.u],undef,undef,undef,undef,undef,undef,undef,undef,undef,undef,undef],defers:=[] })
  (fun x a' u A B row hs hg hr=>by
   obtain⟨Bx,h1,h2,h3⟩:=hs
   refine⟨Bx,h1,(hg.block Bx (heap_lt h2) fun e=>?_).trans h2,h3⟩
   obtain⟨o,ho,hc⟩:=(hr Bx e.symm).2
   rw[h2] at ho
   cases ho;cases hc) ?assign ?body ?done ?stop
 case assign =>
  rintro l pre x W K hi hK
  obtain⟨op,n,st,ao',cap',ys,-,ea,eb,ec,eu,-⟩:=node_form x.is
  have henc:x.encs=#[.int .i64 x.rule,.agg #[x.a,x.b,x.c,x.u]]:=rfl
  rw[henc]
  simp only[ea,eb,ec,eu] at hK ⊢;have hsz2:=hi.2.2.size;clear henc ea eb ec eu
  gi_wp2
  exact hK _ _ ((KeepsOthers.alloc _ _).from _) (Keep.below (fun k hk=>Nat.lt_of_lt_of_le (hSl k hk) hsz2) ((Below.refl _ _).alloc (Nat.le_refl _) _)) (has_own (by omega) (by omega) pre W _ none hi (World.grownBy_alloc W _ none) (fun r e=>by cases e)) ⟨W.heap.size,hsz2,heap_new _ _,rfl⟩
 case body =>
  rintro l pre x a' W hl ⟨r,hr⟩ ⟨hv,hc,hF⟩ ⟨Bx,hBx,hnx,rfl⟩ hlen;have hpv:=varsIn_len (pre.map Nde.t);have hpc:=cellsIn_len (pre.map Nde.t)
  rw[List.length_map] at hpv hpc
  have hvs:=vars_snoc pre x;have hcs:=cells_snoc pre x;have hxs:=x.sz
  obtain⟨op,n,st,ao',cap',ys,hnd,ea,eb,ec,eu,-⟩:=node_form x.is
  simp only[ea,eb,ec,eu] at hnx ⊢;have hot:opOf x.t=op:=by rw[hnd];rfl
  have htt:txtOf x.t=st:=by rw[hnd];rfl
  rw[hot,htt] at hvs hcs
  have hst:st.length≤1048576:=by rw[hnd,siz_nd] at hxs;omega
  have hne:w.heap.size+1≠w.heap.size+2:=by omega
  have hkW:=(hF.block (w.heap.size+3) (by omega) (by omega)).trans hkb;have k0:W.cell? ⟨w.heap.size+3,0,none⟩=some (.map (some (w.heap.size+1))):=by simp[World.cell?,hkW]
  have k1:W.cell? ⟨w.heap.size+3,1,none⟩=some (.map (some (w.heap.size+2))):=by simp[World.cell?,hkW]
  have x0:W.cell? ⟨Bx,0,none⟩=some (.int .i64 op):=by simp[World.cell?,hnx]
  have x1:W.cell? ⟨Bx,1,none⟩=some (.int .i64 n):=by simp[World.cell?,hnx]
  have x2:W.cell? ⟨Bx,2,none⟩=some (.string ⟨st.toArray⟩):=by simp[World.cell?,hnx]
  have x3:W.cell? ⟨Bx,3,none⟩=some (.slice ao' (kidsOf x.t).length cap'):=by simp[World.cell?,hnx]
  have call:=iTake (op:=op) (n:=n) (ao:=ao') (L:=(kidsOf x.t).length) (cap:=cap') hv hc hne hst (by omega) (by omega);have hfT:Fence.wide.fn 85:=trivial;have h12:1≤6 - 1 - 1:=by omega
  clear hnd hnx hkW ea eb ec eu
  gi_wp2_with (gi_at_call 85;refine (CallsIn.inRound l (callsIn_wide.2 call)).mono ?_;rintro e W2 ⟨⟨rv,rfl⟩,hv2,hc2,hF2⟩)
  rw[← hvs] at hv2
  rw[← hcs] at hc2
  refine⟨⟨hF2.size,fun k o hk h1 _=>?_⟩,⟨hF2.size,fun k o h1 hn _=>(hF2.block k (heap_lt h1) hn).trans h1,fun k hk _=>?_⟩,hv2,hc2,hF.trans hF2⟩
  ·exact (hF2.block k (heap_lt h1) (by omega)).trans h1
  ·rcases hk with rfl|rfl
   ·exact hv2.not
   ·exact hc2.not
 case done =>
  rintro D ys W hD hS ⟨hv,hc,hF⟩ hK;have hkf:∀ w',Below W.heap.size W w'→w'.cell? ⟨w.heap.size+3,0,none⟩=some (.map (some (w.heap.size+1)))∧w'.cell? ⟨w.heap.size+3,1,none⟩=some (.map (some (w.heap.size+2))):=fun w' hb=>by
   have h1:=hF.size;have hkW:=(hb.block (w.heap.size+3) (by omega)).trans ((hF.block (w.heap.size+3) (by omega) (by omega)).trans hkb);simp[World.cell?,hkW]
  obtain⟨k0,k1⟩:=hkf W (Below.refl _ _)
  have hfK:Fence.wide.fn 99:=trivial;have hfS:Fence.wide.fn 98:=trivial
  gi_wp2
  have hlv:=varsIn_len (ys.map Nde.t);have hlc:=cellsIn_len (ys.map Nde.t);have hyl:=congrArg List.length hS
  rw[List.length_map] at hlv hlc hyl
  have hz1:=World.ownsMap.size_le hv;have hz2:=World.ownsMap.size_le hc;have hv':SetIs W.drew (w.heap.size+1) (varsIn (ys.map Nde.t)):=hv;have hmx:Tryz.prog.follows .mixedOrders=true:=by kernel_rfl
  have hlast:∀ (w4 w5:World) (v1 v2:Value) (ss1 ss2:List (List UInt8)),Below W.heap.size W w4→Below (w4.alloc (.cells #[.map (some (w.heap.size+2))] 114)).heap.size (w4.alloc (.cells #[.map (some (w.heap.size+2))] 114)) w5→ss1.Perm (strKeys (Maps.setOf (H:=Unit) (.agg []) ((varsIn (ys.map Nde.t)).map Lit.string)))→ss2.Perm (strKeys (Maps.setOf (H:=Unit) (.agg []) ((cellsIn (ys.map Nde.t)).map Lit.string))) →
    w4.ownsRow (W.heap.size+1) 9 1 v1 ss1.length ((ss1.mergeSort (fun x y=>decide (x≤y))).map encStr)→w5.ownsRow (w4.heap.size+1) 9 1 v2 ss2.length ((ss2.mergeSort (fun x y=>decide (x≤y))).map encStr) →
    w5.ownsRow w.heap.size 9 1 v1 (ascS (varsIn (allOf rs))).length ((ascS (varsIn (allOf rs))).map encStr)∧w5.ownsRow w.heap.size 9 1 v2 (ascS (cellsIn (allOf rs))).length ((ascS (cellsIn (allOf rs))).map encStr)∧(∀ k,v1.ownBlock=some k→v2.ownBlock≠some k)∧Below w.heap.size w w5:=by
   intro w4 w5 v1 v2 ss1 ss2 B4 hb5 hp1 hp2 hr1 hr2;have hk2:ys.map Nde.t=allOf rs:=by unfold allOf;rw[← hS,List.map_map];rfl
   obtain⟨m1,l1⟩:=set_sort hv hp1
   obtain⟨m2,l2⟩:=set_sort hc hp2
   rw[hk2] at m1 l1 m2 l2
   rw[m1,l1] at hr1
   rw[m2,l2] at hr2
   have hsF:=hF.size;have hs4:=B4.size;have hs5:=hb5.size;simp only[World.size_alloc] at hs5
   refine⟨owns_base (owns_same hr1 fun g hg=>?_) (by omega),owns_base hr2 (by omega),fun k h1 h2=>?_,?_⟩
   ·have:=(hr1.lt g hg).2
    rw[hb5.block g (by simp;omega),Below.heap_alloc _ _ _ this]
   ·have:=(hr1.lt k h1).2
    have:=(hr2.lt k h2).1
    omega
   ·refine⟨?_,?_,?_,by omega,fun k hk=>?_⟩
    ·exact hb5.os.trans (B4.os.trans (hF.os.trans hbW.os))
    ·exact hb5.tape.trans (B4.tape.trans (hF.tape.trans hbW.tape))
    ·exact hb5.output.trans (B4.output.trans (hF.output.trans hbW.output))
    ·rw[hb5.block k (by simp;omega),Below.heap_alloc _ _ _ (by omega),B4.block k (by omega),hF.block k (by omega) (by omega),hbW.block k hk]
  refine wpIn_mono (Q:=fun e a' W'=>match e with
   | .normal=>∃ (v1 v2:Value) (n4:Nat),a'={ tmps:=#[.slice ao rs.length cap,undef,v1,v2,.pointer (some ⟨w.heap.size+3,0,none⟩),undef,undef,.agg #[.map (some (w.heap.size+1)),.map (some (w.heap.size+2))],.slice ao rs.length cap,.func (.func 134) #[] #[.pointer (some ⟨w.heap.size+3+1,0,none⟩)],undef,undef,undef,undef,undef,.pointer (some ⟨w.heap.size+3,0,none⟩),.map (some (w.heap.size+1)),.func (.func 138) #[] #[.pointer (some ⟨W.heap.size,0,none⟩)],v1,.pointer (some ⟨w.heap.size+3,1,none⟩),.map (some (w.heap.size+2)),.func (.func 138) #[] #[.pointer (some ⟨n4,0,none⟩)],v2],defers:=[{ target:=.collected D,args:=#[] }] } ∧
     W'.heap[D]?=some (.deferred (some []))∧W'.ownsRow w.heap.size 9 1 v1 (ascS (varsIn (allOf rs))).length ((ascS (varsIn (allOf rs))).map encStr)∧W'.ownsRow w.heap.size 9 1 v2 (ascS (cellsIn (allOf rs))).length ((ascS (cellsIn (allOf rs))).map encStr)∧(∀ k,v1.ownBlock=some k→v2.ownBlock≠some k)∧Below w.heap.size w W'
   | _=>False) ?region ?rest
  have cS1:CallsIn Fence.wide 5 Tryz.prog 98 #[.func (.func 138) #[] #[.pointer (some ⟨W.heap.size,0,none⟩)]] (W.alloc (.cells #[.map (some (w.heap.size+1))] 114)).drew fun e w4=>∃ (v1:Value) (ss1:List (List UInt8)),e=.returned v1∧ss1.Perm (strKeys (Maps.setOf (H:=Unit) (.agg []) ((varsIn (ys.map Nde.t)).map Lit.string)))∧w4.ownsRow (W.heap.size+1) 9 1 v1 ss1.length ((ss1.mergeSort (fun x y=>decide (x≤y))).map encStr)∧Below W.heap.size W w4:=by
   refine CallsIn.mono (Tryz.slices_Sorted_keys_98_99 (H:=Unit) (w.heap.size+1) _ _ unitElem W.drew hv' (by unfold maxLen;omega) (by omega)) ?_;rintro e w4 ⟨v1,ss1,rfl,hp1,hr1,-,hb4⟩
   exact⟨v1,ss1,rfl,hp1,by simpa using hr1,(((Below.refl _ W).drew).alloc (Nat.le_refl _) _).trans (hb4.mono (by simp))⟩
  have cS2:∀ w4,Below W.heap.size W w4→CallsIn Fence.wide 5 Tryz.prog 98 #[.func (.func 138) #[] #[.pointer (some ⟨w4.heap.size,0,none⟩)]] (w4.alloc (.cells #[.map (some (w.heap.size+2))] 114)) fun e w5=>∃ (v2:Value) (ss2:List (List UInt8)),e=.returned v2∧ss2.Perm (strKeys (Maps.setOf (H:=Unit) (.agg []) ((cellsIn (ys.map Nde.t)).map Lit.string)))∧w5.ownsRow (w4.heap.size+1) 9 1 v2 ss2.length ((ss2.mergeSort (fun x y=>decide (x≤y))).map encStr)∧Below (w4.alloc (.cells #[.map (some (w.heap.size+2))] 114)).heap.size (w4.alloc (.cells #[.map (some (w.heap.size+2))] 114)) w5:=by
   intro w4 B4;refine CallsIn.mono (Tryz.slices_Sorted_keys_98_99 (H:=Unit) (w.heap.size+2) _ _ unitElem w4 (hc.same (B4.block _ hc.lt)) (by unfold maxLen;omega) (by omega)) ?_;rintro e w5 ⟨v2,ss2,rfl,hp2,hr2,-,hb5⟩
   exact⟨v2,ss2,rfl,hp2,by simpa using hr2,hb5⟩
  case region =>
   clear hseq hr ho hv hc hv' t1 t2 hkb hSx hSl hF hS hb1 hz1 hz2 hlv hlc hyl hvl hsz
   gi_region_with_o (first
    | (gi_at_call 99;with_reducible refine (Tryz.maps_Keys_99 (some (w.heap.size+1)) _).mono ?_;rintro e w3 ⟨rfl,rfl⟩;obtain⟨q0,q1⟩:=hkf ((W.alloc (.cells #[.map (some (w.heap.size+1))] 114)).drew) (((Below.refl _ W).alloc (Nat.le_refl _) _).drew))
    | (gi_at_call 99;with_reducible refine (Tryz.maps_Keys_99 (some (w.heap.size+2)) _).mono ?_;rintro e w3 ⟨rfl,rfl⟩)
    | (gi_at_call 98;with_reducible refine cS1.mono ?_;rintro e w4 ⟨v1,ss1,rfl,hp1,hr1,B4⟩;obtain⟨k0',k1'⟩:=hkf w4 B4)
    | (gi_at_call 98;with_reducible refine (cS2 w4 B4).mono ?_;rintro e w5 ⟨v2,ss2,rfl,hp2,hr2,hb5⟩))
   all_goals
    have hD4:=(B4.block D (heap_lt hK)).trans hK
    exact⟨v1,v2,w4.heap.size,rfl,(hb5.block D (by have:=heap_lt hD4;simp;omega)).trans ((Below.heap_alloc _ _ _ (heap_lt hD4)).trans hD4),hlast w4 w5 v1 v2 ss1 ss2 B4 hb5 hp1 hp2 hr1 hr2⟩
  case rest =>
   rintro e a' W' h
   cases e with
   | normal =>
    obtain⟨v1,v2,n4,rfl,hK2,o1,o2,o3,hB⟩:=h
    gi_wp2
    refine⟨by simp,.inl ⟨_,_,rfl,run_takeDeferred hK2,?_⟩⟩
    exact⟨_,results_tmp2 rfl _ _ _,v1,v2,rfl,ownsRow_putObj o1 _ hK2 rfl,ownsRow_putObj o2 _ hK2 rfl,o3,hB.trans (belowK_b (w:=w) (Nat.le_refl _) W' D _ _ (by omega) hK2 rfl rfl)⟩
   | _=>exact h.elim
 case stop =>
  rintro D c pre W _ _ h _;exact h.elim

end Ck
namespace Cm
open St (Vl encV)
open Nd Ty Ck
open Pg (RdT idx SmT)
open Oc (hold Blk)

theorem ret_names {fn:Func}{K:Nat}{R:Ending→World→Prop}{a:Act}{W:World}{B:Nat}{v0 v1:Value}(hf:fn.results=#[.cell K 61])(ht:a.tmps[K]?=some (.pointer (some ⟨B,0,none⟩)))(hd:a.defers=[])
  (hV:Blk 61 W B [v0,v1]) (hR:R (.returned (.agg #[v0,v1])) W):bodyPost Tryz.prog fn R .ret a W:=by
 have x0:=hV.cell 0 rfl;have x1:=hV.cell 1 rfl;refine bodyPost_ret ?_ hd hR;simp[results,hf,ht,go_sem,x0,x1]

set_option maxHeartbeats 1000000 in
set_option maxRecDepth 100000 in
theorem iNewNames {rs:List Ru}{w:World}{S:Nat→Prop}{v:Value}{xs:List Value}{B:Nat}(hsz:sizR rs≤1048576)(hlt:∀ k,S k→k<w.heap.size)(ho:w.ownsRow B 53 9 v rs.length xs)(hr:RulesAp w rs S xs):
  Calls Tryz.prog 22 #[v] w fun e w'=>∃ a1 n1 c1 a2 n2 c2,e=.returned (.agg #[.slice a1 n1 c1,.slice a2 n2 c2])∧n1=(ascS (Ck.varsIn (allOf rs))).length∧n2=(ascS (Ck.cellsIn (allOf rs))).length∧w'.ownsRow w.heap.size 9 1 (.slice a1 n1 c1) (ascS (Ck.varsIn (allOf rs))).length ((ascS (Ck.varsIn (allOf rs))).map encStr)∧w'.ownsRow w.heap.size 9 1 (.slice a2 n2 c2) (ascS (Ck.cellsIn (allOf rs))).length ((ascS (Ck.cellsIn (allOf rs))).map encStr)∧(∀ k,Value.ownBlock (.slice a1 n1 c1)=some k→Value.ownBlock (.slice a2 n2 c2)≠some k)∧Below w.heap.size w w':=by
 obtain⟨W0,hW0⟩:∃ W0,W0=w.alloc (.cells #[.slice none 0 0,.slice none 0 0] 61):=⟨_,rfl⟩
 have hb0:Below w.heap.size w W0:=by rw[hW0];exact (Below.refl _ w).alloc (Nat.le_refl _) _
 have hk0:Blk 61 W0 w.heap.size [.slice none 0 0,.slice none 0 0]:=by rw[hW0];exact Blk.new _ _ _
 have C:=iNames hsz (owns_same ho fun g hg=>hb0.block g (ho.lt g hg).2) (ap_frame (fun k hk=>hb0.block k (hlt k hk)) hr);have CALL:Hid _:=C;have hsize:w.heap.size<W0.heap.size:=by rw[hW0];simp
 clear hsz hlt ho hr C
 go_enter Tryz.func22,Tryz.ntmps22
 go_wp2_with (go_at_call 56;refine hold ?_)
 rw[← hW0]
 clear hW0;refine Calls.mono CALL.out ?_;rintro e w1 ⟨v1,v2,rfl,o1,o2,hd,hb1⟩
 obtain⟨a1,c1,rfl⟩:=owns_slice o1
 obtain⟨a2,c2,rfl⟩:=owns_slice o2
 have hk1:=hk0.below hb1;have x0:=hk1.cell 0 rfl;have x1:=hk1.cell 1 rfl;have f0:=hk1.frozen
 obtain⟨n1,hn1⟩:=hid_eq (ascS (Ck.varsIn (allOf rs))).length
 obtain⟨n2,hn2⟩:=hid_eq (ascS (Ck.cellsIn (allOf rs))).length
 rw[← hn1.out] at o1 hd
 rw[← hn2.out] at o2 hd
 have HF:Hid (w1.ownsRow W0.heap.size 9 1 (.slice a1 n1 c1) n1 ((ascS (Ck.varsIn (allOf rs))).map encStr)∧w1.ownsRow W0.heap.size 9 1 (.slice a2 n2 c2) n2 ((ascS (Ck.cellsIn (allOf rs))).map encStr)∧(∀ k,Value.ownBlock (.slice a1 n1 c1)=some k→Value.ownBlock (.slice a2 n2 c2)≠some k)∧Below W0.heap.size W0 w1∧Blk 61 w1 w.heap.size [.slice none 0 0,.slice none 0 0]):=⟨o1,o2,hd,hb1,hk1⟩;clear o1 o2 hd hb1 hk1 CALL hk0;go_wp2_with fail
 obtain⟨o1,o2,hd,hb1,hk1⟩:=HF.out
 refine ret_names Tryz.results22 rfl rfl ((hk1.set 0 _).set 1 _) ⟨a1,n1,c1,a2,n2,c2,by rw[hn1.out,hn2.out],hn1.out,hn2.out,?_,?_,hd,((hb0.trans (hb1.mono hb0.size)).setCell (by simp) _).setCell (by simp) _⟩
 ·rw[← hn1.out]
  refine owns_base (owns_same o1 fun g hg=>?_) hb0.size
  have:=(o1.lt g hg).1
  rw[Below.heap_setCell _ _ _ _ (by show g≠w.heap.size;omega),Below.heap_setCell _ _ _ _ (by show g≠w.heap.size;omega)]
 ·rw[← hn2.out]
  refine owns_base (owns_same o2 fun g hg=>?_) hb0.size
  have:=(o2.lt g hg).1
  rw[Below.heap_setCell _ _ _ _ (by show g≠w.heap.size;omega),Below.heap_setCell _ _ _ _ (by show g≠w.heap.size;omega)]

end Cm
namespace Cm
open St (Vl encV)
open Nd Ty Ck
open Pg (RdT SmT)

theorem sub_siz:∀ (m:Nat) (t:Data),cnt t≤m→∀ x∈subs t,(txtOf x).length≤siz t
 | 0,t,h,x,hx=>by rw[cnt_kids] at h;omega
 | m+1,t,h,x,hx=>by
  rw[subs_kids] at hx
  have hc:=cnt_kids t;rcases List.mem_cons.1 hx with rfl|hx
  ·cases x <;> simp[siz,txtOf]
  ·obtain⟨k,hk,hxk⟩:=mem_subsL.1 hx
   have h1:=sub_siz m k (by have:=cnts_mem hk;omega) x hxk;have h2:=sizs_mem hk;have h3:=siz_kids t;omega
theorem tx_size (s:List UInt8):(tx s).size=s.length:=by simp[tx,ByteArray.size]
theorem from_small {t:Data}{v:Vl}(h:From (subs t) v)(hs:siz t≤1048576):Oc.SmV v:=by
 unfold Oc.SmV;rcases h with e|⟨x,hx,e⟩
 ·rw[e];simp[none',ByteArray.size]
 ·rw[e,tx_size]
  have:=sub_siz _ t (Nat.le_refl _) x hx
  omega
theorem rule_small (iv ic:ByteArray→Int){r:Ru}(h1:siz r.2.1≤1048576)(h2:siz r.2.2≤1048576)(b:Nat):∀ v∈ruleP iv ic r b,Oc.SmV v:=by
 have hb:∀ b,∀ v∈seqOf iv ic (kidsOf r.2.2) b,Oc.SmV v:=fun b v hv=>by
  have hs:∀ k∈kidsOf r.2.2,∀ x∈subs k,x∈subs r.2.2:=fun k hk x hx=>by
   rw[subs_kids]
   exact List.mem_cons_of_mem _ (mem_subsL.2 ⟨k,hk,hx⟩)
  have:AllF (subs r.2.2) (seqOf iv ic (kidsOf r.2.2) b):=seqs_from _ (fun f hf b=>by
   simp only[List.map_map,List.mem_map,Function.comp] at hf
   obtain⟨k,hk,rfl⟩:=hf
   exact allF_more (node_from iv ic _ k (Nat.le_refl _) b).2 (hs k hk)) b
  exact from_small (this v hv) h2
 unfold ruleP
 split
 ·intro v hv;simp only[ifV,List.mem_append,List.mem_cons] at hv;rcases hv with hv|rfl|hv
  ·exact from_small ((node_from iv ic _ r.2.1 (Nat.le_refl _) b).2 v hv) h1
  ·unfold Oc.SmV;simp[none',ByteArray.size]
  ·exact hb _ v hv
 ·exact hb b
theorem rules_small (iv ic:ByteArray→Int):∀ (rs:List Ru) (b:Nat),(∀ r∈rs,siz r.2.1≤1048576∧siz r.2.2≤1048576)→∀ v∈rulesP iv ic rs b,Oc.SmV v
 | [],b,_,v,hv=>by simp[rulesP,seqs] at hv
 | r::rs,b,h,v,hv=>by
  have e:rulesP iv ic (r::rs) b=ruleP iv ic r b++rulesP iv ic rs (b+(ruleP iv ic r b).length):=rfl
  rw[e,List.mem_append] at hv
  rcases hv with hv|hv
  ·exact rule_small iv ic (h r (by simp)).1 (h r (by simp)).2 b v hv
  ·exact rules_small iv ic rs _ (fun q hq=>h q (by simp[hq])) v hv
theorem rule_len (iv ic:ByteArray→Int)(r:Ru)(b:Nat):(ruleP iv ic r b).length≤8*cnt r.2.1+8*cnt r.2.2:=by
 have hn:∀ t b,(nodeP iv ic t b).length+1≤8*cnt t:=fun t b=>node_len iv ic _ t (Nat.le_refl _) b;have hs:∀ b,(seqOf iv ic (kidsOf r.2.2) b).length+8≤8*cnt r.2.2:=fun b=>by
  have h1:=seq_len iv ic (kidsOf r.2.2) (fun k _ b=>hn k b) b;have h2:=cnt_kids r.2.2;omega
 unfold ruleP
 split
 ·have h1:=hn r.2.1 b;have h2:=hs (b+(nodeP iv ic r.2.1 b).length+1);simp only[ifV,List.length_append,List.length_cons];omega
 ·have:=hs b
  omega
theorem rules_len (iv ic:ByteArray→Int):∀ (rs:List Ru) (b:Nat),(rulesP iv ic rs b).length≤16*sizR rs+16*rs.length
 | [],b=>by simp[rulesP,seqs]
 | r::rs,b=>by
  have e:rulesP iv ic (r::rs) b=ruleP iv ic r b++rulesP iv ic rs (b+(ruleP iv ic r b).length):=rfl;have h1:=rule_len iv ic r b;have h2:=rules_len iv ic rs (b+(ruleP iv ic r b).length);have c1:=cnt_siz r.2.1;have c2:=cnt_siz r.2.2;have e2:sizR (r::rs)=sizR [r]+sizR rs:=by rw[show r::rs=[r]++rs from rfl,sizR_append]
  have e3:=sizR_mem (r:=r) (rs:=[r]) (by simp)
  rw[e,List.length_append,e2]
  simp only[List.length_cons];omega
theorem tidy_rule {rs:List Ru}(h:tidyB rs=true){r:Ru}(hr:r∈rs):allB r.2.2=true∧blB (opOf r.2.2)=true∧(r.1=3→allB r.2.1=true∧eB (opOf r.2.1)=true)∧(r.1=1∨r.1=2∨r.1=3):=by
 have h1:=List.all_eq_true.1 h r hr;unfold ruleB treeB at h1;simp only[Bool.and_eq_true] at h1
 obtain⟨⟨a1,a2,a3⟩,a4⟩:=h1
 refine⟨a3,a1,fun e=>?_,?_⟩
 ·rw[if_neg (by omega),if_pos e] at a4
  simp only[Bool.and_eq_true] at a4
  exact⟨a4.2.2,a4.1⟩
 ·by_cases h12:r.1=1∨r.1=2
  ·omega
  ·rw[if_neg h12] at a4
   by_cases h3:r.1=3
   ·omega
   ·rw[if_neg h3] at a4
    cases a4
theorem rdt_of {w:World}{B n cap:Nat}{ao:Option Addr}{ss:List (List UInt8)}(h:w.ownsRow B 9 1 (.slice ao n cap) ss.length (ss.map encStr))(hs:∀ s∈ss,s.length≤1048576):RdT w ao (ss.map tx):=fun i s hi=>by
 have hl:i<ss.length:=by simpa using (List.getElem?_eq_some_iff.1 hi).1
 have hn:n=ss.length:=by
  rcases h.2 with ⟨h0,h1⟩|⟨g,cap',cur,he,_⟩
  ·omega
  ·simp at he;omega
 subst hn
 obtain⟨g,e,hg,hc⟩:=row_cells h hl
 rw[List.getElem?_map,List.getElem?_eq_getElem hl] at hi
 simp at hi;subst hi
 refine⟨g,0,e,hg,?_,?_⟩
 ·rw[tx_size]
  have:=hs ss[i] (List.getElem_mem hl)
  unfold maxLen;omega
 ·rw[Nat.zero_add]
  exact hc i _ (by rw[List.getElem?_map,List.getElem?_eq_getElem hl];rfl)

end Cm
namespace Rx

theorem kids_append {wr w2 w3:World}{B p:Nat}{ts:List Data}{t:Data}{v v':Value}{xs cs:List Value}{S:Nat→Prop}{o:Obj}(hown:wr.ownsRow B 103 5 v ts.length xs)(hks:RexsIs wr ts S xs)(hS:∀ k,S k→B≤k∧k<wr.heap.size∧v.ownBlock≠some k)
  (hB:B≤wr.heap.size) (hp:p<B) (hg:wr.grownBy w2 (some p)) (hv:RexIs w2 t (Iv wr.heap.size w2.heap.size) cs) (hown3:w3.ownsRow B 103 5 v' (ts.length+1) (xs++cs))
  (hgr:(w2.alloc o).grownBy w3 v.ownBlock) (hb:v'.ownBlock=v.ownBlock∨v'.ownBlock=some (w2.alloc o).heap.size):Kids w3 B (ts++[t]) v':=by
 refine kids_snoc (w:=wr) (w1:=w2) hks hS hB hv hg.size (fun k h1 h2 _=>hg.block k h2 (by simp;omega)) (fun k hk=>(hown.lt k hk).2) hown3 (Nat.le_trans (by simp) hgr.size) (fun k h1 h2=>?_) ?_
 ·exact (hgr.block k (by simp;omega) (Ne.symm h2)).trans (Below.heap_alloc _ _ _ h1)
 ·rcases hb with h|h
  ·exact .inl h
  ·exact .inr ⟨_,h,by simp⟩

theorem kids_made (w:World){B:Nat}(hB:B≤w.heap.size):Kids (w.alloc (.cells #[] 103)) B [] (.slice (some ⟨w.heap.size,0,none⟩) 0 0) :=
 ⟨[],fun _=>False,World.ownsRow_made w #[] 0 hB (by unfold maxLen;omega) rfl,by simp only[RexsIs],fun _ h=>h.elim⟩

theorem kids_first {w:World}{B:Nat}{t:Data}{a b c d u:Value}(hB:B≤w.heap.size)(hx:RexIs w t (Iv B w.heap.size) [a,b,c,d,u]):Kids (w.alloc (.cells #[a,b,c,d,u] 103)) B [t] (.slice (some ⟨w.heap.size,0,none⟩) 1 1):=by
 refine⟨[a,b,c,d,u],Iv B w.heap.size,World.ownsRow_lit w #[a,b,c,d,u] 1 hB (by unfold maxLen;omega) rfl,rexs_one (rex_frame t _ _ (fun k hk=>Below.heap_alloc _ _ _ hk.2) hx) (fun _ h=>h),fun k hk=>?_⟩
 have h1:=hk.1;have h2:=hk.2
 refine⟨h1,by simp;omega,fun e=>?_⟩
 simp[Value.ownBlock] at e;omega

theorem kids_kept {w w':World}{B:Nat}{ts:List Data}{v:Value}(h:Kids w B ts v)(hg:∀ k,B≤k→k<w.heap.size→w'.heap[k]?=w.heap[k]?)(hs:w.heap.size≤w'.heap.size):Kids w' B ts v:=by
 obtain⟨xs,S,ho,hk,hS⟩:=h
 refine⟨xs,S,owns_same ho fun g hv=>hg g (ho.lt g hv).1 (ho.lt g hv).2,rexs_frame (fun k hk=>hg k (hS k hk).1 (hS k hk).2.1) hk,fun k hk=>⟨(hS k hk).1,by have:=(hS k hk).2.1;omega,(hS k hk).2.2⟩⟩

theorem owns_head {w:World}{B:Nat}{v a b c d u:Value}(h:w.ownsRow B 103 5 v 1 [a,b,c,d,u]):∃ g cap,v=.slice (some ⟨g,0,none⟩) 1 cap∧B≤g∧w.cell? ⟨g,0,none⟩=some a∧w.cell? ⟨g,1,none⟩=some b∧w.cell? ⟨g,2,none⟩=some c∧w.cell? ⟨g,3,none⟩=some d∧w.cell? ⟨g,4,none⟩=some u:=by
 rcases h.2 with ⟨_,h0⟩|⟨g,cap,cur,rfl,hg,_⟩
 ·omega
 ·refine⟨g,cap,rfl,hg,?_,?_,?_,?_,?_⟩
  ·rw[h.cellAt 0 (by omega)];rfl
  ·rw[h.cellAt 1 (by omega)];rfl
  ·rw[h.cellAt 2 (by omega)];rfl
  ·rw[h.cellAt 3 (by omega)];rfl
  ·rw[h.cellAt 4 (by omega)];rfl

theorem kids_head {w:World}{B:Nat}{t:Data}{v:Value}(h:Kids w B [t] v):∃ g cap a b c d u,v=.slice (some ⟨g,0,none⟩) 1 cap∧B≤g∧RexIs w t (Iv B w.heap.size) [a,b,c,d,u]∧w.cell? ⟨g,0,none⟩=some a∧w.cell? ⟨g,1,none⟩=some b∧w.cell? ⟨g,2,none⟩=some c∧w.cell? ⟨g,3,none⟩=some d∧w.cell? ⟨g,4,none⟩=some u:=by
 obtain⟨xs,S,ho,hk,hS⟩:=h
 simp only[RexsIs] at hk
 obtain⟨A,B',c1,c2,rfl,h1,h2,h3,h4⟩:=hk
 simp only[List.append_nil,h2] at ho;have hl:=rex_len h1
 obtain⟨a,b,c,d,u,rfl⟩:∃ a b c d u,c1=[a,b,c,d,u]:=by
  match c1,hl with
  | [a,b,c,d,u],_=>exact⟨a,b,c,d,u,rfl⟩
 obtain⟨g,cap,hv,hB,hc⟩:=owns_head ho
 exact⟨g,cap,a,b,c,d,u,hv,hB,rex_mono h1 fun k hk=>⟨(hS k (h3 k hk).1).1,(hS k (h3 k hk).1).2.1⟩,hc⟩

theorem kids_len' {w:World}{B:Nat}{ts:List Data}{v:Value}(h:Kids w B ts v):∃ ao cap,v=.slice ao ts.length cap:=by
 obtain⟨xs,S,ho,_⟩:=h
 rcases ho.2 with ⟨rfl,hn⟩|⟨g,cap,cur,rfl,_⟩
 ·rw[hn];exact⟨_,_,rfl⟩
 ·exact⟨_,_,rfl⟩

theorem owns_len' {w:World}{B n:Nat}{v:Value}{xs:List Value}(h:w.ownsRow B 103 5 v n xs):∃ ao cap,v=.slice ao n cap:=by
 rcases h.2 with ⟨rfl,hn⟩|⟨g,cap,cur,rfl,_⟩
 ·rw[hn];exact⟨_,_,rfl⟩
 ·exact⟨_,_,rfl⟩

def KBad (p:Nat)(s:ByteArray)(w:World)(v:Value)(W:World):Prop :=
 ∃ (k:Int) (n:Nat) (xs:List Value),At p s w k true W∧W.ownsRow (w.heap.size+1) 103 5 v n xs∧1≤n∧(n=1→∃ a b c d u,xs=[a,b,c,d,u]∧Five a b c d u)

def KEnd (p:Nat)(s:ByteArray)(w:World)(RS:Option (List Data × Nat))(v:Value)(W:World):Prop :=
 (∃ (k:Nat) (ts:List Data),RS=some (ts,k)∧k≤s.size∧At p s w k false W∧Kids W (w.heap.size+1) ts v)∨(RS=none∧KBad p s w v W)

def left (p N:Nat)(w:World):Nat:=match w.cell? ⟨p,2,none⟩ with
 | some (.bool false)=>N+1 - posC p w
 | _=>0
theorem left_good {p N:Nat}{s:ByteArray}{i:Nat}{w:World}(h:Cs p s i false w):left p N w=N+1 - i:=by unfold left;rw[h.bad,posC_is h]
theorem left_bad {p N:Nat}{s:ByteArray}{i:Int}{w:World}(h:Cs p s i true w):left p N w=0:=by unfold left;rw[h.bad]
theorem left_lt {p N:Nat}{s:ByteArray}{i j:Nat}{w W:World}(h:Cs p s i false w)(h':Cs p s j false W)(hi:i≤N)(hj:i<j):left p N W<left p N w:=by rw[left_good h,left_good h'];omega
theorem left_lt_bad {p N:Nat}{s:ByteArray}{i:Nat}{j:Int}{w W:World}(h:Cs p s i false w)(h':Cs p s j true W)(hi:i≤N):left p N W<left p N w:=by rw[left_good h,left_bad h'];omega

end Rx
end Go.Proofs.YtllbachngocmnaaGreatDoor
