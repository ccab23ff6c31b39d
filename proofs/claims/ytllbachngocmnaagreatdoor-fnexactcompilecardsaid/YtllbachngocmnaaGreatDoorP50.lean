/-
  The names of both sides are the same, and so are the places.
-/
import Derived.Test.YtllbachngocmnaaGreatDoorP44
import Derived.Test.YtllbachngocmnaaGreatDoorP46
import Derived.Test.YtllbachngocmnaaGreatDoorP48
import Derived.Test.YtllbachngocmnaaGreatDoorP49
namespace Go.Proofs.YtllbachngocmnaaGreatDoor
open Go.RowKit
namespace Cm
open St (Vl encV)
open Nd Ty Ck
open Pg (idx)

theorem asc_mems {ns ms:List (List UInt8)}(h:∀ x,x∈ns↔x∈ms):ascS ns=ascS ms:=by
 rw[← sort_asc (asc_nodup (ascS_asc ns)) (ns:=ns) (fun x=>ascS_mem),← sort_asc (asc_nodup (ascS_asc ns)) (ns:=ms) (fun x=>ascS_mem.trans (h x))]
theorem nmV_dfs (rs:List Ru):nmV rs=(ascS (Ck.varsIn (dfs rs))).map tx:=by
 unfold nmV
 rw[asc_mems (ms:=Ck.varsIn (dfs rs)) fun x=>?_]
 unfold Ck.varsIn;simp only[List.mem_filterMap,mem_allOf,mem_dfs]
theorem nmC_dfs (rs:List Ru):nmC rs=(ascS (Ck.cellsIn (dfs rs))).map tx:=by
 unfold nmC
 rw[asc_mems (ms:=Ck.cellsIn (dfs rs)) fun x=>?_]
 unfold Ck.cellsIn;simp only[List.mem_filterMap,mem_allOf,mem_dfs]
theorem rule_congr {iv ic iv' ic':ByteArray→Int}{r:Ru}(hb:allB r.2.2=true)(hp:r.1=3→allB r.2.1=true)(h4:∀ x,(x∈subs r.2.1∨x∈subs r.2.2)→opOf x=4→iv (tx (txtOf x))=iv' (tx (txtOf x)))
  (h5:∀ x,(x∈subs r.2.1∨x∈subs r.2.2)→opOf x=5∨opOf x=34→ic (tx (txtOf x))=ic' (tx (txtOf x))):ruleP iv ic r=ruleP iv' ic' r:=by
 have hin:∀ k∈kidsOf r.2.2,∀ x∈subs k,x∈subs r.2.2:=fun k hk x hx=>by
  rw[subs_kids]
  exact List.mem_cons_of_mem _ (mem_subsL.2 ⟨k,hk,hx⟩)
 have hmap:(kidsOf r.2.2).map (comp iv ic)=(kidsOf r.2.2).map (comp iv' ic'):=List.map_congr_left fun k hk=>comp_congr (cnt k) k (Nat.le_refl _) (all_kids hb k hk) (fun x hx=>h4 x (.inr (hin k hk x hx))) (fun x hx=>h5 x (.inr (hin k hk x hx)));have hbody:seqOf iv ic (kidsOf r.2.2)=seqOf iv' ic' (kidsOf r.2.2):=by
  unfold seqOf
  rw[hmap]
 unfold ruleP
 by_cases h3:r.1=3
 ·have:nodeP iv ic r.2.1=nodeP iv' ic' r.2.1:=by
   unfold nodeP
   rw[comp_congr (cnt r.2.1) r.2.1 (Nat.le_refl _) (hp h3) (fun x hx=>h4 x (.inl hx)) (fun x hx=>h5 x (.inl hx))]
  rw[if_pos h3,if_pos h3,hbody,this]
 ·rw[if_neg h3,if_neg h3,hbody]
theorem name_in {rs:List Ru}{x:Data}(hx:SubR rs x)(h:opOf x=4):idx (nmV rs) (tx (txtOf x))=Sp.idx0 (nmV rs) (tx (txtOf x)) :=
 idx_same ⟨tx (txtOf x),List.mem_map_of_mem (ascS_mem.2 (List.mem_filterMap.2 ⟨x,mem_allOf.2 hx,by simp[Ck.varN,h]⟩)),rfl⟩
theorem name_inC {rs:List Ru}{x:Data}(hx:SubR rs x)(h:opOf x=5∨opOf x=34):idx (nmC rs) (tx (txtOf x))=Sp.idx0 (nmC rs) (tx (txtOf x)) :=
 idx_same ⟨tx (txtOf x),List.mem_map_of_mem (ascS_mem.2 (List.mem_filterMap.2 ⟨x,mem_allOf.2 hx,by simp[Ck.cellN,h]⟩)),rfl⟩
theorem rules_same {rs qs:List Ru}(ht:tidyB rs=true)(hq:∀ r∈qs,r∈rs):rulesP (idx (nmV rs)) (idx (nmC rs)) qs=rulesP (Sp.idx0 (nmV rs)) (Sp.idx0 (nmC rs)) qs:=by
 have hmap:qs.map (ruleP (idx (nmV rs)) (idx (nmC rs)))=qs.map (ruleP (Sp.idx0 (nmV rs)) (Sp.idx0 (nmC rs))):=List.map_congr_left fun r hr =>
  rule_congr (tidy_rule ht (hq r hr)).1 (fun e=>((tidy_rule ht (hq r hr)).2.2.1 e).1) (fun x hx h=>name_in ⟨r,hq r hr,hx⟩ h) (fun x hx h=>name_inC ⟨r,hq r hr,hx⟩ h)
 unfold rulesP
 rw[hmap]
theorem beg_filter {rs:List Ru}(h:∀ (i:Nat) (r:Ru),rs[i]?=some r→r.1=1→i=0):rs.filter (fun r=>decide (r.1=1))=rs.take (begN rs)∧rs.filter (fun r=>!decide (r.1=1))=rs.drop (begN rs):=by
 rcases rs with _|⟨r,rs⟩
 ·simp[begN]
 ·have h':∀ x∈rs,¬ x.1=1:=fun x hx e=>by
   obtain⟨i,hi⟩:=List.getElem?_of_mem hx
   have:=h (i+1) x (by simpa using hi) e
   omega
  have f1:rs.filter (fun r=>decide (r.1=1))=[]:=List.filter_eq_nil_iff.2 (fun x hx=>by simpa using h' x hx);have f2:rs.filter (fun r=>!decide (r.1=1))=rs:=List.filter_eq_self.2 (fun x hx=>by simpa using h' x hx)
  by_cases hk:r.1=1
  ·simp only[List.filter_cons,begN,if_pos hk,f1,f2];simp[hk]
  ·simp only[List.filter_cons,begN,if_neg hk,f1,f2];simp[hk]
theorem rulesP_app (iv ic:ByteArray→Int)(xs ys:List Ru)(b:Nat):rulesP iv ic (xs++ys) b=rulesP iv ic xs b++rulesP iv ic ys (b+(rulesP iv ic xs b).length):=by
 unfold rulesP
 rw[List.map_append,seqs_append]
def begs (rs:List Ru):List Ru:=rs.filter (fun r=>decide (r.1=1))
def rest (rs:List Ru):List Ru:=rs.filter (fun r=>!decide (r.1=1))
theorem begs_take {rs:List Ru}{k:Nat}{r:Ru}(h:rs[k]?=some r):begs (rs.take (k+1))=begs (rs.take k)++(if r.1=1 then [r] else []):=by
 unfold begs
 rw[List.take_add_one,h,List.filter_append]
 by_cases hk:r.1=1 <;> simp[hk]
theorem rest_take {rs:List Ru}{k:Nat}{r:Ru}(h:rs[k]?=some r):rest (rs.take (k+1))=rest (rs.take k)++(if r.1=1 then [] else [r]):=by
 unfold rest
 rw[List.take_add_one,h,List.filter_append]
 by_cases hk:r.1=1 <;> simp[hk]
theorem rulesP_one (iv ic:ByteArray→Int)(r:Ru)(b:Nat):rulesP iv ic [r] b=ruleP iv ic r b:=by
 simp[rulesP,seqs]

end Cm
namespace Sp
open St (Vl encV)
open Nd Ty Cm Ck
open Pg (RdT)
open Oc (hold Blk)

theorem siz_sub:∀ {qs rs:List Ru},qs.Sublist rs→sizR qs≤sizR rs∧qs.length≤rs.length
 | _,_,.slnil=>⟨Nat.le_refl _,Nat.le_refl _⟩
 | qs,_,.cons (l₂:=l) r h=>by
  have:=siz_sub h
  have e2:sizR (r::l)=sizR [r]+sizR l:=by rw[show r::l=[r]++l from rfl,sizR_append]
  simp only[List.length_cons];omega
 | _,_,.cons_cons (l₁:=k) (l₂:=l) r h=>by
  have:=siz_sub h
  have e1:sizR (r::k)=sizR [r]+sizR k:=by rw[show r::k=[r]++k from rfl,sizR_append]
  have e2:sizR (r::l)=sizR [r]+sizR l:=by rw[show r::l=[r]++l from rfl,sizR_append]
  simp only[List.length_cons];omega
theorem places_few {rs qs:List Ru}(hsz:sizR rs≤1048576)(hq:qs.Sublist rs)(iv ic:ByteArray→Int)(b:Nat):(rulesP iv ic qs b).length≤33554432:=by
 have h1:=siz_sub hq;have h2:=rules_len iv ic qs b;have h3:=sizR_len qs;omega
theorem begs_sub (rs:List Ru)(k:Nat):(begs (rs.take k)).Sublist rs:=List.filter_sublist.trans (List.take_sublist _ _)
theorem rest_sub (rs:List Ru)(k:Nat):(rest (rs.take k)).Sublist rs:=List.filter_sublist.trans (List.take_sublist _ _)

theorem block_kids {t:Data}(hall:allB t=true)(hbl:blB (opOf t)=true):∀ q∈kidsOf t,stB (opOf q)=true:=by
 intro q hq;have h29:opOf t=29:=by simpa [blB] using hbl
 cases t <;> simp[allB] at hall
 rename_i ks lab
 have h2:=hall.1;unfold nodeB at h2
 rw[Bool.and_eq_true] at h2
 have h3:=h2.2
 rw[h29] at h3
 have h4:((kidsOf (Data.slice ks lab)).map opOf).all stB=true:=by simpa [kindB] using h3
 rw[List.all_map,List.all_eq_true] at h4
 exact h4 q hq
theorem rule_ok {X:Fx}{rs:List Ru}(hsz:sizR rs≤1048576)(ht:tidyB rs=true){r:Ru}(hr:r∈rs):BlOk X r.2.2∧(r.1=3→EOk X r.2.1):=by
 have h:=tidy_rule ht hr;have h1:=sizR_mem hr;have c1:=cnt_siz r.2.1;have c2:=cnt_siz r.2.2;have ck:=cnt_kids r.2.2;have hkl:(kidsOf r.2.2).length≤1048577:=by have:=cnts_len (kidsOf r.2.2);omega
 refine⟨sBlock (fun q hq=>?_) hkl,fun e=>((nodeOk (cnt r.2.1) r.2.1 (Nat.le_refl _) (by omega) (h.2.2.1 e).1).1 (h.2.2.1 e).2)⟩
 have hm:=cnts_mem hq;exact (nodeOk (cnt q) q (Nat.le_refl _) (by omega) (all_kids h.1 q hq)).2 (block_kids h.1 h.2.1 q hq)
theorem run_left {X Y:Fx}{bxs:List (Nat × TypeId × List Value)}{L L' M:List Vl}{w:World}{e:Ending}{w':World}(h:AtT X Y bxs L M w)(hr:Ran X L' w e w'):e=.returned (.tuple #[])∧AtT X Y bxs L' M w':=⟨hr.1,h.left hr.2.1 hr.2.2⟩
theorem run_right {X Y:Fx}{bxs:List (Nat × TypeId × List Value)}{L M M':List Vl}{w:World}{e:Ending}{w':World}(h:AtT X Y bxs L M w)(hr:Ran Y M' w e w'):e=.returned (.tuple #[])∧AtT X Y bxs L M' w':=⟨hr.1,h.right hr.2.1 hr.2.2⟩

theorem two_new {w:World}{va ca:Option Addr}{vc cc:Nat}{vars cells:List ByteArray}(hv:RdT w va vars)(hc:RdT w ca cells)(hvn:vars.length≤1048576)(hcn:cells.length≤1048576):
  AtT ⟨w,w.heap.size,va,ca,vc,cc,vars,cells⟩ ⟨w,w.heap.size+1,va,ca,vc,cc,vars,cells⟩ [] [] [] ((w.alloc (.cells #[.slice va vars.length vc,.slice ca cells.length cc,.slice none 0 0] 48)).alloc (.cells #[.slice va vars.length vc,.slice ca cells.length cc,.slice none 0 0] 48)):=by
 have hb:Below w.heap.size w ((w.alloc (.cells #[.slice va vars.length vc,.slice ca cells.length cc,.slice none 0 0] 48)).alloc (.cells #[.slice va vars.length vc,.slice ca cells.length cc,.slice none 0 0] 48)):=((Below.refl _ w).alloc (Nat.le_refl _) _).alloc (by simp) _;have bX:=(Blk.new 48 w [.slice va vars.length vc,.slice ca cells.length cc,.slice none 0 0]).alloc (.cells #[.slice va vars.length vc,.slice ca cells.length cc,.slice none 0 0] 48);have bY:=Blk.new 48 (w.alloc (.cells #[.slice va vars.length vc,.slice ca cells.length cc,.slice none 0 0] 48)) [.slice va vars.length vc,.slice ca cells.length cc,.slice none 0 0]
 rw[World.size_alloc] at bY
 have nX:∀ k,¬ RowAt ⟨w,w.heap.size,va,ca,vc,cc,vars,cells⟩ ((w.alloc (.cells #[.slice va vars.length vc,.slice ca cells.length cc,.slice none 0 0] 48)).alloc (.cells #[.slice va vars.length vc,.slice ca cells.length cc,.slice none 0 0] 48)) k:=fun k hr=>by
  have:=(rowAt_is (bX.cell 2 rfl)).1 hr
  simp[Value.ownBlock] at this
 have nY:∀ k,¬ RowAt ⟨w,w.heap.size+1,va,ca,vc,cc,vars,cells⟩ ((w.alloc (.cells #[.slice va vars.length vc,.slice ca cells.length cc,.slice none 0 0] 48)).alloc (.cells #[.slice va vars.length vc,.slice ca cells.length cc,.slice none 0 0] 48)) k:=fun k hr=>by
  have:=(rowAt_is (bY.cell 2 rfl)).1 hr
  simp[Value.ownBlock] at this
 exact⟨⟨⟨hb,Nat.le_refl _,⟨none,0,bX,World.ownsRow_nil _ _ _ _⟩,hv,hc,hvn,hcn⟩,⟨hb,Nat.le_succ _,⟨none,0,bY,World.ownsRow_nil _ _ _ _⟩,hv,hc,hvn,hcn⟩,rfl,by show w.heap.size≠w.heap.size+1;omega,nX _,nY _,fun k h=>absurd h (nX k)⟩,fun b hb=>by simp at hb⟩

end Sp
namespace Ck
open Nd Ty

theorem rule_read {rs:List Ru}{w:World}{S:Nat→Prop}{ao:Option Addr}{cap:Nat}{xs:List Value}{B:Nat}(ho:w.ownsRow B 53 9 (.slice ao rs.length cap) rs.length xs)(hR:RulesIs w S rs xs)(hlt:∀ k,S k→k<w.heap.size){w':World}(hb:Below w.heap.size w w'){i:Nat}{r:Ru}(hi:rs[i]?=some r):
  ∃ (g:Nat) (pao:Option Addr) (pcap:Nat) (bao:Option Addr) (bcap:Nat),ao=some ⟨g,0,none⟩∧w'.cell? ⟨g,i*9,none⟩=some (.int .i64 r.1) ∧
   w'.cell? ⟨g,i*9+1,none⟩=some (.int .i64 (opOf r.2.1))∧w'.cell? ⟨g,i*9+1+1,none⟩=some (.int .i64 (numOf r.2.1))∧w'.cell? ⟨g,i*9+1+2,none⟩=some (.string ⟨(txtOf r.2.1).toArray⟩)∧w'.cell? ⟨g,i*9+1+3,none⟩=some (.slice pao (kidsOf r.2.1).length pcap) ∧
   w'.cell? ⟨g,i*9+5,none⟩=some (.int .i64 (opOf r.2.2))∧w'.cell? ⟨g,i*9+5+1,none⟩=some (.int .i64 (numOf r.2.2))∧w'.cell? ⟨g,i*9+5+2,none⟩=some (.string ⟨(txtOf r.2.2).toArray⟩)∧w'.cell? ⟨g,i*9+5+3,none⟩=some (.slice bao (kidsOf r.2.2).length bcap) ∧
   NodeIs w' r.2.1 S [.int .i64 (opOf r.2.1),.int .i64 (numOf r.2.1),.string ⟨(txtOf r.2.1).toArray⟩,.slice pao (kidsOf r.2.1).length pcap]∧NodeIs w' r.2.2 S [.int .i64 (opOf r.2.2),.int .i64 (numOf r.2.2),.string ⟨(txtOf r.2.2).toArray⟩,.slice bao (kidsOf r.2.2).length bcap]∧∀ k,S k→k<w'.heap.size:=by
 obtain⟨p0,p1,p2,p3,b0,b1,b2,b3,e0,e1,e2,e3,e4,e5,e6,e7,e8,hp,hbd⟩:=rules_at hR hi
 obtain⟨g,rfl,hg,hc⟩:=row_cells ho ((List.getElem?_eq_some_iff.1 hi).1)
 have cc:∀ j x,xs[j]?=some x→w'.cell? ⟨g,j,none⟩=some x:=fun j x hx=>(hb.cell (p:=⟨g,j,none⟩) hg).trans (hc j x hx)
 obtain⟨pao,pcap,pxs,rfl,rfl,rfl,rfl,-,-⟩:=op_form hp
 obtain⟨bao,bcap,bxs,rfl,rfl,rfl,rfl,-,-⟩:=op_form hbd
 exact⟨g,pao,pcap,bao,bcap,rfl,cc _ _ e0,cc _ _ e1,cc _ _ e2,cc _ _ e3,cc _ _ e4,cc _ _ e5,cc _ _ e6,cc _ _ e7,cc _ _ e8,node_frame _ _ _ (fun j hj=>hb.block j (hlt j hj)) hp,node_frame _ _ _ (fun j hj=>hb.block j (hlt j hj)) hbd,fun k hk=>Nat.lt_of_lt_of_le (hlt k hk) hb.size⟩

set_option maxHeartbeats 4000000 in
set_option maxRecDepth 100000 in
theorem sCheck {rs:List Ru}{w:World}{S:Nat→Prop}{v:Value}{xs:List Value}{B:Nat}(hS:Sen w)(hsz:sizR rs≤1048576)(hlt:∀ k,S k→k<w.heap.size)(ho:w.ownsRow B 53 9 v rs.length xs)(hR:RulesIs w S rs xs):
  Calls Tryz.prog 14 #[v] w fun e w'=>∃ c:Int,e=.returned (.int .i64 c)∧CheckIs rs c∧Below w.heap.size w w':=by
 have hN:=rules_nodes hR;have cT:=sTidy hS hsz hlt ho hR;have cN:=fun (w':World) (hb:Below w.heap.size w w')=>sNames hsz (w:=w') (S:=S) (fun k hk=>Nat.lt_of_lt_of_le (hlt k hk) hb.size) (owns_same ho fun g hg=>hb.block g (ho.lt g hg).2) (rules_frame (fun k hk=>hb.block k (hlt k hk)) hR);have bn:(rs.length:Int)≤1048576:=by have:=sizR_len rs;omega
 obtain⟨ao,cap,rfl⟩:=owns_slice ho
 obtain⟨C,hC⟩:∃ C,C=CheckIs rs:=⟨_,rfl⟩
 rw[← hC]
 cases ht:tidyB rs with
 | false =>
  have H:Hid (C 1):=by show C 1;rw[hC];exact .inr ⟨0,rfl,ht,fun i hi=>by omega⟩
  rw[ht] at cT
  clear hC ht cN
  go_enter Tryz.func14,Tryz.ntmps14
  go_wp2_with (go_at_call 35;refine cT.mono ?_;rintro e w2 ⟨rfl,hb2⟩)
  go_ret
  exact⟨1,rfl,H.out,hb2⟩
 | true =>
  have n0:¬ Bad rs 0:=by show ¬ (tidyB rs=false);rw[ht];simp
  have b1:=bad1_iff hN ht;have b2:=bad2_iff (rs:=rs);have b3:=bad3_iff (rs:=rs);have b4:=bad4_iff hN;have b5:=bad5_iff hN ht;have one:∀ j:Nat,Bad rs j→(∀ i,i<j→¬ Bad rs i)→C ((j:Int)+1):=fun j h1 h2=>by rw[hC];exact .inr ⟨j,rfl,h1,h2⟩
  have zero:(∀ j,j<6→¬ Bad rs j)→C 0:=fun h=>by
   rw[hC]
   refine .inl ⟨rfl,fun j=>?_⟩
   by_cases hj:j<6
   ·exact h j hj
   ·match j,hj with
    | j+6,_=>exact id
  have hsub:∀ r∈rs,(∀ x∈subs r.2.1,opOf x=21→2≤(kidsOf x).length)∧(∀ x∈subs r.2.2,opOf x=21→2≤(kidsOf x).length)∧siz r.2.1≤1048576∧siz r.2.2≤1048576:=fun r hr=>⟨fun x hx h=>tidy_two n0 x ⟨r,hr,.inl hx⟩ h,fun x hx h=>tidy_two n0 x ⟨r,hr,.inr hx⟩ h,by have:=sizR_mem hr;omega,by have:=sizR_mem hr;omega⟩;have hlV:(ascS (varsIn (dfs rs))).length≤3000000:=by have:=foldl_len (varsIn (dfs rs)) [];have:=varsIn_len (dfs rs);have:=dfs_len rs;unfold ascS;simp at *;omega
  have hlC:(ascS (cellsIn (dfs rs))).length≤3000000:=by have:=foldl_len (cellsIn (dfs rs)) [];have:=cellsIn_len (dfs rs);have:=dfs_len rs;unfold ascS;simp at *;omega
  rw[ht] at cT
  have lt1:∀ (Q:Nat→Prop) (n:Nat),(∀ i,i<n→Q i)→Q n→∀ i,i<n+1→Q i:=fun Q n h1 h2 i hi=>by
   by_cases e:i=n
   ·exact e ▸ h2
   ·exact h1 i (by omega)
  generalize ascS (varsIn (dfs rs))=V at *;generalize ascS (cellsIn (dfs rs))=D at *
  obtain⟨Q,hQ⟩:∃ Q,Q=Bad rs:=⟨_,rfl⟩
  rw[← hQ] at n0 b1 b2 b3 b4 b5 one zero
  have F2:(∃ (i:Nat) (r:Ru),rs[i]?=some r∧r.1=1∧(0<i∨lineT r.2.2=true))→C 2:=fun h=>one 1 (b1.2 h) (lt1 (fun i=>¬ Q i) 0 (fun i hi=>by omega) n0);have G1:(¬ ∃ (i:Nat) (r:Ru),rs[i]?=some r∧r.1=1∧(0<i∨lineT r.2.2=true))→∀ i,i<2→¬ Q i:=fun h=>lt1 (fun i=>¬ Q i) 1 (lt1 (fun i=>¬ Q i) 0 (fun i hi=>by omega) n0) fun q=>h (b1.1 q);have F3:(∀ i,i<2→¬ Q i)→(8<V.length∨8<D.length)→C 3:=fun h q=>one 2 (b2.2 q) h;have G2:(∀ i,i<2→¬ Q i)→¬ (8<V.length∨8<D.length)→∀ i,i<3→¬ Q i:=fun h q=>lt1 (fun i=>¬ Q i) 2 h fun x=>q (b2.1 x);have F4:(∀ i,i<3→¬ Q i)→(∃ x∈V,x∈D)→C 4:=fun h q=>one 3 (b3.2 q) h;have G3:(∀ i,i<3→¬ Q i)→¬ (∃ x∈V,x∈D)→∀ i,i<4→¬ Q i:=fun h q=>lt1 (fun i=>¬ Q i) 3 h fun x=>q (b3.1 x);have F5:(∀ i,i<4→¬ Q i)→(∃ r∈rs,argsT r.2.1=false∨argsT r.2.2=false)→C 5:=fun h q=>one 4 (b4.2 q) h;have G4:(∀ i,i<4→¬ Q i)→¬ (∃ r∈rs,argsT r.2.1=false∨argsT r.2.2=false)→∀ i,i<5→¬ Q i:=fun h q=>lt1 (fun i=>¬ Q i) 4 h fun x=>q (b4.1 x);have F6:(∀ i,i<5→¬ Q i)→(∃ r∈rs,rexT r.2.1=false∨rexT r.2.2=false)→C 6:=fun h q=>one 5 (b5.2 q) h;have F0:(∀ i,i<5→¬ Q i)→¬ (∃ r∈rs,rexT r.2.1=false∨rexT r.2.2=false)→C 0:=fun h q=>zero (lt1 (fun i=>¬ Q i) 5 h fun x=>q (b5.1 x));clear hC n0 b1 b2 b3 b4 b5 one zero hQ lt1 hN ht hS hsz
  go_enter Tryz.func14,Tryz.ntmps14
  go_wp2_with (go_at_call 35;refine cT.mono ?_;rintro e w2 ⟨rfl,hb2⟩)
  clear cT
  go_loopw [3] (fun i wr=>∃ k:Nat,k≤rs.length∧i=.int .i64 k∧(∀ (i:Nat) (r:Ru),i<k→rs[i]?=some r→¬ (r.1=1∧(0<i∨lineT r.2.2=true)))∧Below w.heap.size w wr) (fun i _=>rs.length - (intOf i).toNat)
  case atStart=>exact⟨0,Nat.zero_le _,rfl,fun i r h=>by omega,hb2⟩
  case round =>
   clear hb2
   obtain⟨k,hk,rfl,hall,hb⟩:=hrel
   by_cases hkl:k<rs.length
   ·have hki:rs[k]?=some rs[k]:=List.getElem?_eq_getElem hkl
    obtain⟨g,pao,pcap,bao,bcap,rfl,c0,-,-,-,-,c5,c6,c7,c8,-,hbd,hlw⟩:=rule_read ho hR hlt hb hki
    obtain⟨-,qb,-,zb⟩:=hsub _ (List.getElem_mem hkl)
    have call:=sLine rs[k].2.2 wr S _ _ _ _ hbd hlw zb qb;have hbad:rs[k].1=1→(0<k∨lineT rs[k].2.2=true)→C 2:=fun h1 h2=>F2 ⟨k,_,hki,h1,h2⟩;have hnext:¬ (rs[k].1=1∧(0<k∨lineT rs[k].2.2=true))→∀ (i:Nat) (r:Ru),i<k+1→rs[i]?=some r→¬ (r.1=1∧(0<i∨lineT r.2.2=true)):=fun h i r hi hr=>by
     by_cases e:i=k
     ·subst e;rw[hki] at hr;cases hr;exact h
     ·exact hall i r (by omega) hr
    have bk:(k:Int)<rs.length:=by omega
    have HX:Hid _:=hnext;have HY:Hid _:=hbad;clear hki hbd hlw qb zb hnext hbad hall cN;generalize lineT rs[k].2.2=A at *;generalize rs[k].1=kd at *;generalize opOf rs[k].2.2=bo at *;generalize numOf rs[k].2.2=bnn at *;generalize txtOf rs[k].2.2=bt at *;generalize (kidsOf rs[k].2.2).length=bL at *
    by_cases h1:kd=1
    ·subst h1
     by_cases hk0:k=0
     ·subst hk0;cases A
      ·have H:Hid (∀ (i:Nat) (r:Ru),i<0+1→rs[i]?=some r→¬ (r.1=1∧(0<i∨lineT r.2.2=true))):=HX.out (by simp);clear HX HY
       go_wp2_with (go_at_call 36;refine call.mono ?_;rintro e w3 ⟨rfl,hw3⟩)
       go_roundw
       case rel=>exact⟨0+1,hkl,by go_num,H.out,hb.trans (hw3.mono hb.size)⟩
       case measure=>simp[intOf];omega
      ·have H:Hid (C 2):=HY.out rfl (.inr rfl);clear HX HY
       go_wp2_with (go_at_call 36;refine call.mono ?_;rintro e w3 ⟨rfl,hw3⟩)
       go_ret
       exact⟨2,rfl,H.out,hb.trans (hw3.mono hb.size)⟩
     ·have H:Hid (C 2):=HY.out rfl (.inl (by omega));have hkp:(0:Int)<k:=by omega
      clear HX HY hk0 call;go_wp2_with fail;go_ret
      exact⟨2,rfl,H.out,hb⟩
    ·have H:Hid (∀ (i:Nat) (r:Ru),i<k+1→rs[i]?=some r→¬ (r.1=1∧(0<i∨lineT r.2.2=true))):=HX.out fun h=>h1 h.1;have e1:(kd==1)=false:=by simpa using h1
     clear HX HY h1 call;go_wp2_with fail;go_roundw
     case rel=>exact⟨k+1,hkl,by go_num,H.out,hb⟩
     case measure=>simp[intOf];omega
   ·obtain rfl:k=rs.length:=by omega
    have G2':=G1 (by
     rintro⟨i,r,h1,h2⟩
     exact hall i r ((List.getElem?_eq_some_iff.1 h1).1) h1 h2)
    clear hall F2 G1
    go_wp2_with (go_at_call 15;refine hold ?_)
    refine (cN wr hb).mono ?_;clear cN;rintro e w3 ⟨gv,kv,gc,kc,rfl,tv,tc,hb3⟩;replace hb:=hb.trans (hb3.mono hb.size);clear hb3;have lV:(V.length:Int)≤3000000:=by omega
    have lD:(D.length:Int)≤3000000:=by omega
    by_cases h8:8<V.length
    ·have H:Hid (C 3):=F3 G2' (.inl h8);have h8':(8:Int)<V.length:=by omega
     clear h8 F3 G2;go_wp2_with fail;go_ret
     exact⟨3,rfl,H.out,hb⟩
    ·by_cases h9:8<D.length
     ·have H:Hid (C 3):=F3 G2' (.inr h9);have h8':¬ (8:Int)<V.length:=by omega
      have h9':(8:Int)<D.length:=by omega
      clear h8 h9 F3 G2;go_wp2_with fail;go_ret
      exact⟨3,rfl,H.out,hb⟩
     ·have G3':=G2 G2' (by omega);have h8':¬ (8:Int)<V.length:=by omega
      have h9':¬ (8:Int)<D.length:=by omega
      clear h8 h9 F3 G2;go_wp2_with fail
      go_loopw [6] (fun i wr=>∃ k:Nat,k≤V.length∧i=.int .i64 k∧(∀ (i:Nat) (x:List UInt8),i<k→V[i]?=some x→¬ x∈D)∧Below w.heap.size w wr∧TxtRow wr gv kv V∧TxtRow wr gc kc D) (fun i _=>V.length - (intOf i).toNat)
      case atStart=>exact⟨0,Nat.zero_le _,rfl,fun i x h=>by omega,hb,tv,tc⟩
      case round =>
       clear tv tc hb
       obtain⟨k,hk,rfl,hall,hb,tv,tc⟩:=hrel
       by_cases hkl:k<V.length
       ·have hki:V[k]?=some V[k]:=List.getElem?_eq_getElem hkl;have c0:=tv.cell hki;have call:=sWithinT hlC V[k] gc kc wr tc;have hbad:V[k]∈D→C 4:=fun h=>F4 G3' ⟨V[k],List.getElem_mem hkl,h⟩;have hnext:¬ V[k]∈D→∀ (i:Nat) (x:List UInt8),i<k+1→V[i]?=some x→¬ x∈D:=fun h i x hi hx=>by
         by_cases e:i=k
         ·subst e;rw[hki] at hx;cases hx;exact h
         ·exact hall i x (by omega) hx
        have bk:(k:Int)<V.length:=by omega
        by_cases hin:V[k]∈D
        ·have H:Hid (C 4):=hbad hin
         rw[decide_eq_true hin] at call
         clear hbad hnext hall hki hin;generalize V[k]=x0 at *
         go_wp2_with (go_at_call 37;refine call.mono ?_;rintro e w3 ⟨rfl,rfl⟩)
         go_ret
         exact⟨4,rfl,H.out,hb⟩
        ·have H:Hid (∀ (i:Nat) (x:List UInt8),i<k+1→V[i]?=some x→¬ x∈D):=hnext hin
         rw[decide_eq_false hin] at call
         clear hbad hnext hall hki hin;generalize V[k]=x0 at *
         go_wp2_with (go_at_call 37;refine call.mono ?_;rintro e w3 ⟨rfl,rfl⟩)
         go_roundw
         case rel=>exact⟨k+1,hkl,by go_num,H.out,hb,tv,tc⟩
         case measure=>simp[intOf];omega
       ·obtain rfl:k=V.length:=by omega
        have G4':=G3 G3' (by
         rintro⟨x,h1,h2⟩
         obtain⟨i,hi⟩:=List.getElem?_of_mem h1
         exact hall i x ((List.getElem?_eq_some_iff.1 hi).1) hi h2)
        clear hall F4 G3 tv tc;go_wp2_with fail
        go_loopw [7] (fun i wr=>∃ k:Nat,k≤rs.length∧i=.int .i64 k∧(∀ (i:Nat) (r:Ru),i<k→rs[i]?=some r→argsT r.2.1=true∧argsT r.2.2=true)∧Below w.heap.size w wr) (fun i _=>rs.length - (intOf i).toNat)
        case atStart=>exact⟨0,Nat.zero_le _,rfl,fun i r h=>by omega,hb⟩
        case round =>
         obtain⟨k,hk,rfl,hall,hb⟩:=hrel
         by_cases hkl:k<rs.length
         ·have hki:rs[k]?=some rs[k]:=List.getElem?_eq_getElem hkl
          obtain⟨g,pao,pcap,bao,bcap,rfl,c0,c1,c2,c3,c4,-,-,-,-,hp,-,hlw⟩:=rule_read ho hR hlt hb hki
          have hbd:=fun w' (h:Below w.heap.size w w')=>rule_read ho hR hlt h hki
          obtain⟨qp,qb,zp,zb⟩:=hsub _ (List.getElem_mem hkl)
          have call1:=sArgs rs[k].2.1 wr S _ _ _ _ hp hlw zp qp;have hnext:argsT rs[k].2.1=true→argsT rs[k].2.2=true→∀ (i:Nat) (r:Ru),i<k+1→rs[i]?=some r→argsT r.2.1=true∧argsT r.2.2=true:=fun h1 h2 i r hi hr=>by
           by_cases e:i=k
           ·subst e;rw[hki] at hr;cases hr;exact⟨h1,h2⟩
           ·exact hall i r (by omega) hr
          have hbad:argsT rs[k].2.1=false∨argsT rs[k].2.2=false→C 5:=fun h=>F5 G4' ⟨_,List.getElem_mem hkl,h⟩;have call2:∀ w',Below w.heap.size w w'→∃ (d0 d1 d2:Value),True:=fun _ _=>⟨undef,undef,undef,trivial⟩;clear call2;have hb2:∀ w',Below wr.heap.size wr w'→∃ (g':Nat) (bao':Option Addr) (bcap':Nat),g'=g∧w'.cell? ⟨g,k*9+5,none⟩=some (.int .i64 (opOf rs[k].2.2))∧w'.cell? ⟨g,k*9+5+1,none⟩=some (.int .i64 (numOf rs[k].2.2))∧w'.cell? ⟨g,k*9+5+2,none⟩=some (.string ⟨(txtOf rs[k].2.2).toArray⟩)∧w'.cell? ⟨g,k*9+5+3,none⟩=some (.slice bao' (kidsOf rs[k].2.2).length bcap')∧Calls Tryz.prog 38 #[.agg #[.int .i64 (opOf rs[k].2.2),.int .i64 (numOf rs[k].2.2),.string ⟨(txtOf rs[k].2.2).toArray⟩,.slice bao' (kidsOf rs[k].2.2).length bcap']] w' fun e w''=>e=.returned (.bool (argsT rs[k].2.2))∧Below w'.heap.size w' w'':=fun w' h=>by
           obtain⟨g',pao',pcap',bao',bcap',e,-,-,-,-,-,d0,d1,d2,d3,-,hbn,hlw'⟩:=hbd w' (hb.trans (h.mono hb.size))
           have:g=g':=by simpa using e
           subst this
           exact⟨g,bao',bcap',rfl,d0,d1,d2,d3,sArgs rs[k].2.2 w' S _ _ _ _ hbn hlw' zb qb⟩
          have bk:(k:Int)<rs.length:=by omega
          have HX:Hid _:=hnext;have HY:Hid _:=hbad;clear hki hp hlw hbd qp qb zp zb hnext hbad hall;generalize argsT rs[k].2.1=P1 at *;generalize argsT rs[k].2.2=P2 at *;generalize opOf rs[k].2.1=po at *;generalize numOf rs[k].2.1=pn at *;generalize txtOf rs[k].2.1=pt at *;generalize (kidsOf rs[k].2.1).length=pL at *;generalize opOf rs[k].2.2=bo at *;generalize numOf rs[k].2.2=bnn at *;generalize txtOf rs[k].2.2=bt at *;generalize (kidsOf rs[k].2.2).length=bL at *;cases P1
          ·have H:Hid (C 5):=HY.out (.inl rfl);clear HX HY
           go_wp2_with (go_at_call 38;refine call1.mono ?_;rintro e w2 ⟨rfl,hw2⟩)
           go_ret
           exact⟨5,rfl,H.out,hb.trans (hw2.mono hb.size)⟩
          ·cases P2
           ·have H:Hid (C 5):=HY.out (.inr rfl);clear HX HY
            go_wp2_with (first
             | (go_at_call 38;with_reducible refine call1.mono ?_;rintro e w2 ⟨rfl,hw2⟩;obtain⟨g',bao',bcap',-,d0,d1,d2,d3,call2⟩:=hb2 w2 hw2;clear call1)
             | (go_at_call 38;refine call2.mono ?_;rintro e w3 ⟨rfl,hw3⟩))
            go_ret
            exact⟨5,rfl,H.out,(hb.trans (hw2.mono hb.size)).trans (hw3.mono (Nat.le_trans hb.size hw2.size))⟩
           ·have H:Hid (∀ (i:Nat) (r:Ru),i<k+1→rs[i]?=some r→argsT r.2.1=true∧argsT r.2.2=true):=HX.out rfl rfl;clear HX HY
            go_wp2_with (first
             | (go_at_call 38;with_reducible refine call1.mono ?_;rintro e w2 ⟨rfl,hw2⟩;obtain⟨g',bao',bcap',-,d0,d1,d2,d3,call2⟩:=hb2 w2 hw2;clear call1)
             | (go_at_call 38;refine call2.mono ?_;rintro e w3 ⟨rfl,hw3⟩))
            go_roundw
            case rel=>exact⟨k+1,hkl,by go_num,H.out,(hb.trans (hw2.mono hb.size)).trans (hw3.mono (Nat.le_trans hb.size hw2.size))⟩
            case measure=>simp[intOf];omega
         ·obtain rfl:k=rs.length:=by omega
          have hno:¬ ∃ r∈rs,argsT r.2.1=false∨argsT r.2.2=false:=by
           rintro⟨r,hr,h⟩
           obtain⟨i,hi⟩:=List.getElem?_of_mem hr
           have:=hall i r ((List.getElem?_eq_some_iff.1 hi).1) hi
           rcases h with h|h
           ·rw[this.1] at h;cases h
           ·rw[this.2] at h;cases h
          clear hall

          have G5:=G4 G4' hno;clear hno F5 G4;go_wp2_with fail
          go_loopw [8] (fun i wr=>∃ k:Nat,k≤rs.length∧i=.int .i64 k∧(∀ (i:Nat) (r:Ru),i<k→rs[i]?=some r→rexT r.2.1=true∧rexT r.2.2=true)∧Below w.heap.size w wr) (fun i _=>rs.length - (intOf i).toNat)
          case atStart=>exact⟨0,Nat.zero_le _,rfl,fun i r h=>by omega,hb⟩
          case round =>
           obtain⟨k,hk,rfl,hall,hb⟩:=hrel
           by_cases hkl:k<rs.length
           ·have hki:rs[k]?=some rs[k]:=List.getElem?_eq_getElem hkl
            obtain⟨g,pao,pcap,bao,bcap,rfl,c0,c1,c2,c3,c4,-,-,-,-,hp,-,hlw⟩:=rule_read ho hR hlt hb hki
            have hbd:=fun w' (h:Below w.heap.size w w')=>rule_read ho hR hlt h hki
            obtain⟨qp,qb,zp,zb⟩:=hsub _ (List.getElem_mem hkl)
            have call1:=sRexes rs[k].2.1 wr S _ _ _ _ hp hlw zp qp;have hnext:rexT rs[k].2.1=true→rexT rs[k].2.2=true→∀ (i:Nat) (r:Ru),i<k+1→rs[i]?=some r→rexT r.2.1=true∧rexT r.2.2=true:=fun h1 h2 i r hi hr=>by
             by_cases e:i=k
             ·subst e;rw[hki] at hr;cases hr;exact⟨h1,h2⟩
             ·exact hall i r (by omega) hr
            have hbad:rexT rs[k].2.1=false∨rexT rs[k].2.2=false→C 6:=fun h=>F6 G5 ⟨_,List.getElem_mem hkl,h⟩;have call2:∀ w',Below w.heap.size w w'→∃ (d0 d1 d2:Value),True:=fun _ _=>⟨undef,undef,undef,trivial⟩;clear call2;have hb2:∀ w',Below wr.heap.size wr w'→∃ (g':Nat) (bao':Option Addr) (bcap':Nat),g'=g∧w'.cell? ⟨g,k*9+5,none⟩=some (.int .i64 (opOf rs[k].2.2))∧w'.cell? ⟨g,k*9+5+1,none⟩=some (.int .i64 (numOf rs[k].2.2))∧w'.cell? ⟨g,k*9+5+2,none⟩=some (.string ⟨(txtOf rs[k].2.2).toArray⟩)∧w'.cell? ⟨g,k*9+5+3,none⟩=some (.slice bao' (kidsOf rs[k].2.2).length bcap')∧Calls Tryz.prog 39 #[.agg #[.int .i64 (opOf rs[k].2.2),.int .i64 (numOf rs[k].2.2),.string ⟨(txtOf rs[k].2.2).toArray⟩,.slice bao' (kidsOf rs[k].2.2).length bcap']] w' fun e w''=>e=.returned (.bool (rexT rs[k].2.2))∧Below w'.heap.size w' w'':=fun w' h=>by
             obtain⟨g',pao',pcap',bao',bcap',e,-,-,-,-,-,d0,d1,d2,d3,-,hbn,hlw'⟩:=hbd w' (hb.trans (h.mono hb.size))
             have:g=g':=by simpa using e
             subst this
             exact⟨g,bao',bcap',rfl,d0,d1,d2,d3,sRexes rs[k].2.2 w' S _ _ _ _ hbn hlw' zb qb⟩
            have bk:(k:Int)<rs.length:=by omega
            have HX:Hid _:=hnext;have HY:Hid _:=hbad;clear hki hp hlw hbd qp qb zp zb hnext hbad hall;generalize rexT rs[k].2.1=P1 at *;generalize rexT rs[k].2.2=P2 at *;generalize opOf rs[k].2.1=po at *;generalize numOf rs[k].2.1=pn at *;generalize txtOf rs[k].2.1=pt at *;generalize (kidsOf rs[k].2.1).length=pL at *;generalize opOf rs[k].2.2=bo at *;generalize numOf rs[k].2.2=bnn at *;generalize txtOf rs[k].2.2=bt at *;generalize (kidsOf rs[k].2.2).length=bL at *;cases P1
            ·have H:Hid (C 6):=HY.out (.inl rfl);clear HX HY
             go_wp2_with (go_at_call 39;refine call1.mono ?_;rintro e w2 ⟨rfl,hw2⟩)
             go_ret
             exact⟨6,rfl,H.out,hb.trans (hw2.mono hb.size)⟩
            ·cases P2
             ·have H:Hid (C 6):=HY.out (.inr rfl);clear HX HY
              go_wp2_with (first
               | (go_at_call 39;with_reducible refine call1.mono ?_;rintro e w2 ⟨rfl,hw2⟩;obtain⟨g',bao',bcap',-,d0,d1,d2,d3,call2⟩:=hb2 w2 hw2;clear call1)
               | (go_at_call 39;refine call2.mono ?_;rintro e w3 ⟨rfl,hw3⟩))
              go_ret
              exact⟨6,rfl,H.out,(hb.trans (hw2.mono hb.size)).trans (hw3.mono (Nat.le_trans hb.size hw2.size))⟩
             ·have H:Hid (∀ (i:Nat) (r:Ru),i<k+1→rs[i]?=some r→rexT r.2.1=true∧rexT r.2.2=true):=HX.out rfl rfl;clear HX HY
              go_wp2_with (first
               | (go_at_call 39;with_reducible refine call1.mono ?_;rintro e w2 ⟨rfl,hw2⟩;obtain⟨g',bao',bcap',-,d0,d1,d2,d3,call2⟩:=hb2 w2 hw2;clear call1)
               | (go_at_call 39;refine call2.mono ?_;rintro e w3 ⟨rfl,hw3⟩))
              go_roundw
              case rel=>exact⟨k+1,hkl,by go_num,H.out,(hb.trans (hw2.mono hb.size)).trans (hw3.mono (Nat.le_trans hb.size hw2.size))⟩
              case measure=>simp[intOf];omega
           ·obtain rfl:k=rs.length:=by omega
            have hno:¬ ∃ r∈rs,rexT r.2.1=false∨rexT r.2.2=false:=by
             rintro⟨r,hr,h⟩
             obtain⟨i,hi⟩:=List.getElem?_of_mem hr
             have:=hall i r ((List.getElem?_eq_some_iff.1 hi).1) hi
             rcases h with h|h
             ·rw[this.1] at h;cases h
             ·rw[this.2] at h;cases h
            clear hall

            have H:Hid (C 0):=F0 G5 hno;clear hno F0 F6;go_wp2_with fail;go_ret
            exact⟨0,rfl,H.out,hb⟩

end Ck
namespace Sp
open St (Vl encV RdV)
open Nd Ty Cm Ck
open Pg (RdT SmT idx progB)
open Oc (hold Blk SmV)

theorem row_rd {w:World}{B cap:Nat}{ao:Option Addr}{L:List Vl}(h:w.ownsRow B 57 3 (.slice ao L.length cap) L.length (L.flatMap encV))(hs:∀ x∈L,SmV x):RdV w ao L:=fun i x hi=>by
 have hl:i<L.length:=(List.getElem?_eq_some_iff.1 hi).1
 obtain⟨g,rfl,hg,hc⟩:=row_cells h hl
 have hL:L=L.take i++x::L.drop (i+1):=by
  have:=(List.getElem?_eq_some_iff.1 hi).2
  rw[← this,← List.drop_eq_getElem_cons hl,List.take_append_drop]
 have hti:(L.take i).length=i:=by rw[List.length_take];omega
 have hcell:∀ j y,([.int .i64 x.1,.int .i64 x.2.1,.string x.2.2]:List Value)[j]?=some y→w.cell? ⟨g,i*3+j,none⟩=some y:=fun j y hj=>by
  refine hc _ _ ?_
  rw[hL,flat_at,List.getElem?_append_right (by rw[flat_len,hti];omega),flat_len,hti,show i*3+j - i*3=j by omega]
  have hj3:j<3:=by simpa using (List.getElem?_eq_some_iff.1 hj).1
  rw[show (Value.int .i64 x.1::Value.int .i64 x.2.1::Value.string x.2.2::(L.drop (i+1)).flatMap encV)=[.int .i64 x.1,.int .i64 x.2.1,.string x.2.2]++(L.drop (i+1)).flatMap encV from rfl,List.getElem?_append_left (by simpa using hj3)]
  exact hj
 have hm:=hs x (List.mem_of_getElem? hi)
 refine⟨g,0,rfl,hg,?_,?_,?_,?_⟩
 ·unfold SmV at hm;unfold maxLen;omega
 ·simpa using hcell 0 _ rfl
 ·simpa using hcell 1 _ rfl
 ·simpa using hcell 2 _ rfl
theorem begs_next (iv ic:ByteArray→Int){rs:List Ru}{k:Nat}{r:Ru}(h:rs[k]?=some r):rulesP iv ic (begs (rs.take (k+1))) 0=if r.1=1 then rulesP iv ic (begs (rs.take k)) 0++seqOf iv ic (kidsOf r.2.2) (rulesP iv ic (begs (rs.take k)) 0).length else rulesP iv ic (begs (rs.take k)) 0:=by
 rw[begs_take h]
 by_cases h1:r.1=1
 ·rw[if_pos h1,if_pos h1,rulesP_app,rulesP_one,Nat.zero_add]
  unfold ruleP
  rw[if_neg (by omega)]
 ·rw[if_neg h1,if_neg h1,List.append_nil]
theorem rest_next (iv ic:ByteArray→Int){rs:List Ru}{k:Nat}{r:Ru}(h:rs[k]?=some r):rulesP iv ic (rest (rs.take (k+1))) 0=if r.1=1 then rulesP iv ic (rest (rs.take k)) 0 else rulesP iv ic (rest (rs.take k)) 0++ruleP iv ic r (rulesP iv ic (rest (rs.take k)) 0).length:=by
 rw[rest_take h]
 by_cases h1:r.1=1
 ·rw[if_pos h1,if_pos h1,List.append_nil]
 ·rw[if_neg h1,if_neg h1,rulesP_app,rulesP_one,Nat.zero_add]
def SCompOut (rs:List Ru)(c:Int)(w:World)(e:Ending)(w':World):Prop:=Below w.heap.size w w'∧((c≠0∧e=.returned (.tuple #[.agg #[.slice none 0 0,.slice none 0 0,.slice none 0 0,.slice none 0 0],.int .i64 c]))∨(c=0∧okV rs=false∧e=.returned (.tuple #[.agg #[.slice none 0 0,.slice none 0 0,.slice none 0 0,.slice none 0 0],.int .i64 3])) ∨
 (c=0∧okV rs=true∧∃ a1 c1 a2 c2 a3 c3 a4 c4,e=.returned (.tuple #[.agg #[.slice a1 (nmV rs).length c1,.slice a2 (nmC rs).length c2,.slice a3 (stV rs).length c3,.slice a4 (mnV rs).length c4],.int .i64 0])∧RdT w' a1 (nmV rs)∧RdT w' a2 (nmC rs)∧RdV w' a3 (stV rs)∧RdV w' a4 (mnV rs)))
structure Rnd (W:World)(rs:List Ru)(k g:Nat)(kd:Int)(p b:Data)(po bo:Option Addr)(pc bc:Nat):Prop where
 at':rs[k]?=some (kd,p,b)
 pat:∃ Sp,NodeIs W p Sp [.int .i64 (opOf p),.int .i64 (numOf p),.string ⟨(txtOf p).toArray⟩,.slice po (kidsOf p).length pc]
 body:∃ Sb,NodeIs W b Sb [.int .i64 (opOf b),.int .i64 (numOf b),.string ⟨(txtOf b).toArray⟩,.slice bo (kidsOf b).length bc]
 cells:∀ j x,([.int .i64 kd,.int .i64 (opOf p),.int .i64 (numOf p),.string ⟨(txtOf p).toArray⟩,.slice po (kidsOf p).length pc,.int .i64 (opOf b),.int .i64 (numOf b),.string ⟨(txtOf b).toArray⟩,.slice bo (kidsOf b).length bc]:List Value)[j]?=some x→W.cell? ⟨g,k*9+j,none⟩=some x
theorem rnd_of {W:World}{rs:List Ru}{S:Nat→Prop}{g cap B:Nat}{xs:List Value}(ho:W.ownsRow B 53 9 (.slice (some ⟨g,0,none⟩) rs.length cap) rs.length xs)(hr:RulesAp W rs S xs){k:Nat}(hk:k<rs.length):∃ kd p b po bo pc bc,Rnd W rs k g kd p b po bo pc bc:=by
 obtain⟨S',hd,-⟩:=ap_drop k hr
 obtain⟨p0,p1,p2,p3,b0,b1,b2,b3,Sp,Sb,Sr,h1,h2,-,-,-,-,hx⟩:=drop_rule hk hd
 obtain⟨po,pc,rfl,rfl,rfl,rfl⟩:=node_vals h1
 obtain⟨bo,bc,rfl,rfl,rfl,rfl⟩:=node_vals h2
 refine⟨rs[k].1,rs[k].2.1,rs[k].2.2,po,bo,pc,bc,List.getElem?_eq_getElem hk,⟨Sp,h1⟩,⟨Sb,h2⟩,fun j x hj=>?_⟩
 obtain⟨g',e,hg,hc⟩:=row_cells ho hk
 simp at e;subst e;exact hc _ _ (hx j x hj)

end Sp
end Go.Proofs.YtllbachngocmnaaGreatDoor
