/-
  Texts of places are texts of nodes.
-/
import Derived.Test.YtllbachngocmnaaGreatDoorP17
import Derived.Defers
import Derived.Recover
import Derived.Test.YtllbachngocmnaaGreatDoorP18
import Derived.RangeFuncNested
import Derived.RangeFuncBound
import Derived.RangeFuncCalls
import Derived.RangeFuncLeaves
import Derived.OwnWalkIn
import Derived.TacticsInMore
import Derived.LoopNIn
import Derived.LoopIn
namespace Go.Proofs.YtllbachngocmnaaGreatDoor
open Go.RowKit
namespace Cm
open St (Vl encV)
open Nd Ty Ck

def From (ts:List Data)(v:Vl):Prop:=v.2.2=none'∨∃ x∈ts,v.2.2=tx (txtOf x)
theorem From.more {ts us:List Data}{v:Vl}(h:From ts v)(hs:∀ x∈ts,x∈us):From us v:=h.imp id fun ⟨x,hx,e⟩=>⟨x,hs x hx,e⟩
def AllF (ts:List Data)(l:List Vl):Prop:=∀ v∈l,From ts v
theorem allF_nil {ts:List Data}:AllF ts []:=fun v hv=>by simp at hv
theorem allF_app {ts:List Data}{a b:List Vl}(h1:AllF ts a)(h2:AllF ts b):AllF ts (a++b):=fun v hv=>(List.mem_append.1 hv).elim (h1 v) (h2 v)
theorem allF_cons {ts:List Data}{c n:Int}{b:List Vl}(h2:AllF ts b):AllF ts ((c,n,none')::b):=fun v hv=>(List.mem_cons.1 hv).elim (fun e=>.inl (by rw[e])) (h2 v)
theorem allF_more {ts us:List Data}{l:List Vl}(h:AllF ts l)(hs:∀ x∈ts,x∈us):AllF us l:=fun v hv=>(h v hv).more hs
theorem seqs_from {us:List Data}:∀ (fs:List Pt),(∀ f∈fs,∀ b,AllF us (f b))→∀ b,AllF us (seqs fs b)
 | [],_,b=>allF_nil
 | f::fs,h,b=>allF_app (h f (by simp) b) (seqs_from fs (fun g hg=>h g (by simp[hg])) _)
theorem prints_from {us:List Data}:∀ (fs:List Pt) (i:Nat),(∀ f∈fs,∀ b,AllF us (f b))→∀ b,AllF us (prints i fs b)
 | [],i,_,b=>allF_nil
 | f::fs,i,h,b=>allF_app (h f (by simp) b) (allF_cons (prints_from fs (i+1) (fun g hg=>h g (by simp[hg])) _))
theorem node_from (iv ic:ByteArray→Int):∀ (m:Nat) (t:Data),cnt t≤m→∀ b,AllF (subs t) ((comp iv ic t).1 b)∧AllF (subs t) ((comp iv ic t).2 b)
 | 0,t,h,b=>by rw[cnt_kids] at h;omega
 | m+1,t,h,b=>by
  have hc:=cnt_kids t;have hsub:=subs_kids t;cases t <;> try exact⟨allF_nil,allF_nil⟩
  rename_i ks lab
  have hk:kidsOf (Data.slice ks lab)=ks:=rfl
  rw[hk] at hc hsub
  have hself:Data.slice ks lab∈subs (Data.slice ks lab):=by rw[hsub];simp
  have hin:∀ k∈ks,∀ x∈subs k,x∈subs (Data.slice ks lab):=fun k hk x hx=>by
   rw[hsub]
   exact List.mem_cons_of_mem _ (mem_subsL.2 ⟨k,hk,hx⟩)
  have hkin:∀ k∈ks,k∈subs (Data.slice ks lab):=fun k hk=>hin k hk k (by rw[subs_kids];simp);have ih1:∀ k∈ks,∀ b,AllF (subs (Data.slice ks lab)) ((comp iv ic k).1 b):=fun k hk b=>allF_more (node_from iv ic m k (by have:=cnts_mem hk;omega) b).1 (hin k hk);have ih2:∀ k∈ks,∀ b,AllF (subs (Data.slice ks lab)) ((comp iv ic k).2 b):=fun k hk b=>allF_more (node_from iv ic m k (by have:=cnts_mem hk;omega) b).2 (hin k hk);have hseq:∀ b,AllF (subs (Data.slice ks lab)) (seqs ((ks.map (comp iv ic)).map (·.2)) b):=fun b=>seqs_from _ (fun f hf b=>by
   simp only[List.map_map,List.mem_map,Function.comp] at hf
   obtain⟨k,hk,rfl⟩:=hf
   exact ih2 k hk b) b
  rw[comp,comps_map]
  refine⟨hseq b,?_⟩
  have hword:From (subs (Data.slice ks lab)) (wordV iv ic (opOf (Data.slice ks lab)) (numOf (Data.slice ks lab)) (txtOf (Data.slice ks lab)) ks.length):=by
   have ht:From (subs (Data.slice ks lab)) (0,0,tx (txtOf (Data.slice ks lab))):=.inr ⟨_,hself,rfl⟩;unfold wordV
   repeat' split
   all_goals first|exact .inl rfl|exact ht
  generalize subs (Data.slice ks lab)=us at *;generalize hop:opOf (Data.slice ks lab)=op at *;generalize hnn:numOf (Data.slice ks lab)=n at *;generalize hss:txtOf (Data.slice ks lab)=s at *;show AllF us (opV iv ic op n s ks (ks.map (comp iv ic)) b);unfold opV
  split
  ·exact hseq b
  split
  ·refine allF_app ?_ (allF_cons allF_nil)
   split
   ·exact allF_cons (allF_cons (allF_cons allF_nil))
   ·exact prints_from _ 0 (fun f hf b=>by
     simp only[List.map_map,List.mem_map,Function.comp] at hf
     obtain⟨k,hk,rfl⟩:=hf
     exact ih2 k hk b) b
  have two:∀ f0 f1,ks.map (comp iv ic)=[f0,f1]→∃ k0 k1,k0∈ks∧k1∈ks∧f0=comp iv ic k0∧f1=comp iv ic k1:=fun f0 f1 hfs=>by
   rcases ks with _|⟨k0,_|⟨k1,_|⟨k2,ks⟩⟩⟩
   ·simp at hfs
   ·simp at hfs
   ·simp at hfs
    exact⟨k0,k1,by simp,by simp,hfs.1.symm,hfs.2.symm⟩
   ·simp at hfs
  have three:∀ f0 f1 f2,ks.map (comp iv ic)=[f0,f1,f2]→∃ k0 k1 k2,k0∈ks∧k1∈ks∧k2∈ks∧f0=comp iv ic k0∧f1=comp iv ic k1∧f2=comp iv ic k2:=fun f0 f1 f2 hfs=>by
   rcases ks with _|⟨k0,_|⟨k1,_|⟨k2,_|⟨k3,ks⟩⟩⟩⟩
   ·simp at hfs
   ·simp at hfs
   ·simp at hfs
   ·simp at hfs
    exact⟨k0,k1,k2,by simp,by simp,by simp,hfs.1.symm,hfs.2.1.symm,hfs.2.2.symm⟩
   ·simp at hfs
  split
  ·split
   ·rename_i f0 f1 hfs
    obtain⟨k0,k1,m0,m1,rfl,rfl⟩:=two _ _ hfs
    exact allF_app (ih2 k0 m0 _) (allF_cons (ih1 k1 m1 _))
   ·rename_i f0 f1 f2 hfs
    obtain⟨k0,k1,k2,m0,m1,m2,rfl,rfl,rfl⟩:=three _ _ _ hfs
    exact allF_app (ih2 k0 m0 _) (allF_cons (allF_app (ih1 k1 m1 _) (allF_cons (ih1 k2 m2 _))))
   ·exact allF_nil
  split
  ·split
   ·rename_i f0 f1 hfs
    obtain⟨k0,k1,m0,m1,rfl,rfl⟩:=two _ _ hfs
    exact allF_app (ih2 k0 m0 _) (allF_cons (allF_app (ih1 k1 m1 _) (allF_cons allF_nil)))
   ·exact allF_nil
  split
  ·split
   ·rename_i f0 f1 hfs
    obtain⟨k0,k1,m0,m1,rfl,rfl⟩:=two _ _ hfs
    exact allF_app (ih2 k0 m0 _) (allF_cons (allF_app (ih2 k1 m1 _) (allF_cons (allF_cons (allF_cons allF_nil)))))
   ·exact allF_nil
  split
  ·split
   ·rename_i f0 f1 hfs
    obtain⟨k0,k1,m0,m1,rfl,rfl⟩:=two _ _ hfs
    exact allF_app (ih2 k0 m0 _) (allF_cons (allF_cons (allF_cons (allF_app (ih2 k1 m1 _) (allF_cons allF_nil)))))
   ·exact allF_nil
  split
  ·split
   ·rename_i k0 k1 f0 f1 hfs
    obtain⟨q0,q1,m0,m1,rfl,rfl⟩:=two _ _ hfs
    refine allF_app (seqs_from _ (fun f hf b=>?_) _) ?_
    ·simp at hf;rcases hf with rfl|rfl
     ·exact ih1 q0 m0 b
     ·exact ih2 q1 m1 b
    ·split <;> exact allF_cons allF_nil
   ·exact allF_nil
  split
  ·split
   ·rename_i k0 k1 f0 f1 hfs
    obtain⟨q0,q1,m0,m1,rfl,rfl⟩:=two _ _ hfs
    refine allF_app (ih2 q0 m0 _) fun v hv=>?_;simp at hv;exact .inr ⟨k1,hkin k1 (by simp),by rw[hv]⟩
   ·exact allF_nil
  ·refine allF_app (hseq b) fun v hv=>?_;simp at hv
   rw[hv]
   exact hword

end Cm
namespace Ty
open Nd

def z9:List Value:=[.int .i64 0,.int .i64 0,.int .i64 0,.string ⟨#[]⟩,.slice none 0 0,.int .i64 0,.int .i64 0,.string ⟨#[]⟩,.slice none 0 0]
def zeros9 (n:Nat):List Value:=(List.replicate n z9).flatten
theorem zeros9_len (n:Nat):(zeros9 n).length=n*9:=by
 induction n with
 | zero=>rfl
 | succ n ih=>simp[zeros9,List.replicate_succ] at ih ⊢;simp[z9];omega
theorem zeros9_succ (n:Nat):zeros9 (n+1)=z9++zeros9 n:=by simp[zeros9,List.replicate_succ]
theorem zeros9_get:∀ (n j:Nat),j<n*9→(zeros9 n)[j]?=z9[j % 9]?
 | 0,j,h=>by omega
 | n+1,j,h=>by
  rw[zeros9_succ]
  by_cases hj:j<9
  ·rw[List.getElem?_append_left (by simp[z9];omega),Nat.mod_eq_of_lt hj]
  ·rw[List.getElem?_append_right (by simp[z9];omega)]
   have:=zeros9_get n (j - 9) (by omega)
   simp only[z9,List.length_cons,List.length_nil] at this ⊢
   rw[this]
   congr 1
   omega
theorem made_zeros9 (n:Nat):madeCells #[.int .i64 0,.int .i64 0,.int .i64 0,.string ⟨#[]⟩,.slice none 0 0,.int .i64 0,.int .i64 0,.string ⟨#[]⟩,.slice none 0 0] (n*9)=(zeros9 n).toArray:=by
 apply Array.ext_getElem?;intro j
 by_cases h:j<n*9
 ·have h9:j % 9<9:=Nat.mod_lt _ (by omega);have hz:(zeros9 n).toArray[j]?=z9[j % 9]?:=by rw[List.getElem?_toArray];exact zeros9_get n j h
  rw[hz]
  simp only[madeCells,Array.getElem?_map,Array.getElem?_range,h,if_true,Option.map_some];generalize j % 9=r at h9
  match r,h9 with
  | 0,_=>rfl
  | 1,_=>rfl
  | 2,_=>rfl
  | 3,_=>rfl
  | 4,_=>rfl
  | 5,_=>rfl
  | 6,_=>rfl
  | 7,_=>rfl
  | 8,_=>rfl
 ·rw[Array.getElem?_eq_none (by simp[madeCells];omega),Array.getElem?_eq_none (by simp[zeros9_len];omega)]

theorem Tryz.infoRuler:(Tryz.prog.info? 53).map (fun i=>(i.zero,i.size,i.bytes))=some (some (.agg #[.int .i64 0,.int .i64 0,.int .i64 0,.string ⟨#[]⟩,.slice none 0 0,.int .i64 0,.int .i64 0,.string ⟨#[]⟩,.slice none 0 0]),9,120):=by kernel_rfl

theorem make_rules (n:Nat)(hn:n≤1048576)(w:World):(Instr.makeSlice 30 (.int .i64 n) (.int .i64 n)).run Tryz.prog w=.ok (.slice (some ⟨w.heap.size,0,none⟩) n n) (w.alloc (.cells (zeros9 n).toArray 53)):=by
 obtain⟨i0,hi0,hz0,hz1,hz2⟩:=info_parts Tryz.infoRuler
 have:=run_make (P:=Tryz.prog) w 30 53 i0 _ Tryz.underlying30 hi0 hz0 .i64 .i64 n n (by omega) (Int.le_refl _) (by rw[hz2];omega) (by omega)
 rw[this,hz1]
 simp only[Int.toNat_natCast]
 rw[← made_zeros9]
 rfl

theorem set9 {xs ys:List Value}{k:Nat}(hx:xs.length=k*9)(v0 v1 v2 v3 v4 v5 v6 v7 v8 z0 z1 z2 z3 z4 z5 z6 z7 z8:Value):
  (((((((((xs++[z0,z1,z2,z3,z4,z5,z6,z7,z8]++ys).toArray.set! (k*9) v0).set! (k*9+1) v1).set! (k*9+1+1) v2).set! (k*9+1+2) v3).set! (k*9+1+3) v4).set! (k*9+5) v5).set! (k*9+5+1) v6).set! (k*9+5+2) v7).set! (k*9+5+3) v8=(xs++[v0,v1,v2,v3,v4,v5,v6,v7,v8]++ys).toArray:=by
 rw[← hx]
 apply Array.ext';simp[Nat.add_assoc]

theorem put9_row {w:World}{g k n:Nat}{xs:List Value}(h:w.heap[g]?=some (.cells (xs++zeros9 (n+1)).toArray 53 (0,0)))(hx:xs.length=k*9)(v0 v1 v2 v3 v4 v5 v6 v7 v8:Value):
  (put9 w g (k*9) v0 v1 v2 v3 v4 v5 v6 v7 v8).heap[g]?=some (.cells (xs++[v0,v1,v2,v3,v4,v5,v6,v7,v8]++zeros9 n).toArray 53 (0,0)):=by
 have hs:=set9 (ys:=zeros9 n) hx v0 v1 v2 v3 v4 v5 v6 v7 v8 (.int .i64 0) (.int .i64 0) (.int .i64 0) (.string ⟨#[]⟩) (.slice none 0 0) (.int .i64 0) (.int .i64 0) (.string ⟨#[]⟩) (.slice none 0 0)
 rw[zeros9_succ,← List.append_assoc] at h
 rw[← hs]
 simp[put9,put4,World.setCell,Array.getElem?_modify,h,z9]

theorem row9_at {w:World}{g k n:Nat}{xs:List Value}(h:w.heap[g]?=some (.cells (xs++zeros9 (n+1)).toArray 53 (0,0)))(hx:xs.length=k*9):
  w.cell? ⟨g,k*9,none⟩=some (.int .i64 0)∧w.cell? ⟨g,k*9+1,none⟩=some (.int .i64 0)∧w.cell? ⟨g,k*9+1+1,none⟩=some (.int .i64 0)∧w.cell? ⟨g,k*9+1+2,none⟩=some (.string ⟨#[]⟩)∧w.cell? ⟨g,k*9+1+3,none⟩=some (.slice none 0 0) ∧
   w.cell? ⟨g,k*9+5,none⟩=some (.int .i64 0)∧w.cell? ⟨g,k*9+5+1,none⟩=some (.int .i64 0)∧w.cell? ⟨g,k*9+5+2,none⟩=some (.string ⟨#[]⟩)∧w.cell? ⟨g,k*9+5+3,none⟩=some (.slice none 0 0)∧∀ j,w.frozen? ⟨g,j,none⟩=false:=by
 have hc:∀ j,j<9→w.cell? ⟨g,k*9+j,none⟩=z9[j]?:=fun j hj=>by
  simp only[World.cell?,h]
  rw[List.getElem?_toArray,zeros9_succ,List.getElem?_append_right (by omega),List.getElem?_append_left (by simp[z9];omega),show k*9+j - xs.length=j by omega]
  rfl
 exact⟨hc 0 (by omega),hc 1 (by omega),hc 2 (by omega),hc 3 (by omega),hc 4 (by omega),hc 5 (by omega),hc 6 (by omega),hc 7 (by omega),hc 8 (by omega),fun j=>by simp[World.frozen?,h]⟩

def RulesAp (w:World):List Ru→(Nat→Prop)→List Value→Prop
 | [],_,xs=>xs=[]
 | r::rs,S,xs=>∃ (p0 p1 p2 p3 b0 b1 b2 b3:Value) (c:List Value) (Sp Sb Sr:Nat→Prop),xs=.int .i64 r.1::p0::p1::p2::p3::b0::b1::b2::b3::c∧NodeIs w r.2.1 Sp [p0,p1,p2,p3]∧NodeIs w r.2.2 Sb [b0,b1,b2,b3]∧RulesAp w rs Sr c ∧
   (∀ k,Sp k→S k∧¬ Sb k∧¬ Sr k)∧(∀ k,Sb k→S k∧¬ Sr k)∧(∀ k,Sr k→S k)
theorem ap_is {w:World}:∀ {rs:List Ru} {S:Nat→Prop} {xs:List Value},RulesAp w rs S xs→RulesIs w S rs xs
 | [],S,xs,h=>h
 | r::rs,S,xs,h=>by
  obtain⟨p0,p1,p2,p3,b0,b1,b2,b3,c,Sp,Sb,Sr,rfl,h1,h2,h3,k1,k2,k3⟩:=h
  exact⟨p0,p1,p2,p3,b0,b1,b2,b3,c,rfl,node_mono h1 fun k hk=>(k1 k hk).1,node_mono h2 fun k hk=>(k2 k hk).1,rules_mono k3 (ap_is h3)⟩
theorem ap_frame {w w':World}:∀ {rs:List Ru} {S:Nat→Prop} {xs:List Value},(∀ k,S k→w'.heap[k]?=w.heap[k]?)→RulesAp w rs S xs→RulesAp w' rs S xs
 | [],S,xs,_,h=>h
 | r::rs,S,xs,hS,h=>by
  obtain⟨p0,p1,p2,p3,b0,b1,b2,b3,c,Sp,Sb,Sr,rfl,h1,h2,h3,k1,k2,k3⟩:=h
  exact⟨p0,p1,p2,p3,b0,b1,b2,b3,c,Sp,Sb,Sr,rfl,node_frame _ _ _ (fun k hk=>hS k (k1 k hk).1) h1,node_frame _ _ _ (fun k hk=>hS k (k2 k hk).1) h2,ap_frame (fun k hk=>hS k (k3 k hk)) h3,k1,k2,k3⟩
theorem ap_mono {w:World}:∀ {rs:List Ru} {S S':Nat→Prop} {xs:List Value},(∀ k,S k→S' k)→RulesAp w rs S xs→RulesAp w rs S' xs
 | [],S,S',xs,_,h=>h
 | r::rs,S,S',xs,hS,h=>by
  obtain⟨p0,p1,p2,p3,b0,b1,b2,b3,c,Sp,Sb,Sr,rfl,h1,h2,h3,k1,k2,k3⟩:=h
  exact⟨p0,p1,p2,p3,b0,b1,b2,b3,c,Sp,Sb,Sr,rfl,h1,h2,h3,fun k hk=>⟨hS k (k1 k hk).1,(k1 k hk).2⟩,fun k hk=>⟨hS k (k2 k hk).1,(k2 k hk).2⟩,fun k hk=>hS k (k3 k hk)⟩
theorem ap_snoc {w:World}{r:Ru}{p0 p1 p2 p3 b0 b1 b2 b3:Value}{Sp Sb:Nat→Prop}(h1:NodeIs w r.2.1 Sp [p0,p1,p2,p3])(h2:NodeIs w r.2.2 Sb [b0,b1,b2,b3])(hd:∀ k,Sp k→¬ Sb k):∀ {rs:List Ru} {S:Nat→Prop} {xs:List Value},(∀ k,S k→¬ Sp k∧¬ Sb k)→RulesAp w rs S xs →
  RulesAp w (rs++[r]) (fun k=>S k∨Sp k∨Sb k) (xs++[.int .i64 r.1,p0,p1,p2,p3,b0,b1,b2,b3])
 | [],S,xs,hS,h=>by
  simp only[RulesAp] at h;subst h
  exact⟨p0,p1,p2,p3,b0,b1,b2,b3,[],Sp,Sb,fun _=>False,rfl,h1,h2,rfl,fun k hk=>⟨.inr (.inl hk),hd k hk,id⟩,fun k hk=>⟨.inr (.inr hk),id⟩,fun k hk=>hk.elim⟩
 | r'::rs,S,xs,hS,h=>by
  obtain⟨q0,q1,q2,q3,d0,d1,d2,d3,c,Tp,Tb,Tr,rfl,a1,a2,a3,k1,k2,k3⟩:=h
  have ih:=ap_snoc h1 h2 hd (fun k hk=>hS k (k3 k hk)) a3
  refine⟨q0,q1,q2,q3,d0,d1,d2,d3,_,Tp,Tb,_,rfl,a1,a2,ih,fun k hk=>⟨.inl (k1 k hk).1,(k1 k hk).2.1,?_⟩,fun k hk=>⟨.inl (k2 k hk).1,?_⟩,fun k hk=>?_⟩
  ·have:=hS k (k1 k hk).1
   exact fun h=>h.elim (k1 k hk).2.2 fun h=>h.elim this.1 this.2
  ·have:=hS k (k2 k hk).1
   exact fun h=>h.elim (k2 k hk).2 fun h=>h.elim this.1 this.2
  ·exact hk.imp (k3 k) id

set_option maxHeartbeats 1000000 in
set_option maxRecDepth 100000 in
theorem lToRuleAp {rs:List Ru}(hsz:sizR rs≤1048576)(w:World)(ao:Option Addr)(cap:Nat)(hA:RArgs w rs ao 0):
  Calls Tryz.prog 6 #[.slice ao rs.length cap] w fun e w'=>∃ v xs,e=.returned v∧w'.ownsRow w.heap.size 53 9 v rs.length xs∧RulesAp w' rs (Iv (w.heap.size+1) w'.heap.size) xs∧v.ownBlock=some w.heap.size∧Below w.heap.size w w':=by
 have hlen:=sizR_len rs;have hmk:=make_rules rs.length (by omega);have bn:(rs.length:Int)≤1048576:=by omega
 go_enter Tryz.func6,Tryz.ntmps6
 go_wp2_with fail
 go_loopw [4] (fun i wr=>∃ (k:Nat) (xs:List Value),i=.int .i64 k∧k≤rs.length∧wr.heap[w.heap.size]?=some (.cells (xs++zeros9 (rs.length - k)).toArray 53 (0,0))∧RulesAp wr (rs.take k) (Iv (w.heap.size+1) wr.heap.size) xs∧Below w.heap.size w wr) (fun i _=>rs.length - (intOf i).toNat)
 case atStart=>exact⟨0,[],rfl,Nat.zero_le _,heap_new _ _,by simp[RulesAp],(Below.refl _ w).alloc (Nat.le_refl _) _⟩
 case round =>
  obtain⟨k,xs,rfl,hkn,hP,hN,hb⟩:=hrel
  have hql:=heap_lt hP
  by_cases hkl:k<rs.length
  ·have hki:rs[k]?=some rs[k]:=List.getElem?_eq_getElem hkl
   obtain⟨b,o,p0,p1,p2,p3,b0,b1,b2,b3,rfl,hbl,c0,c1,c2,c3,c4,c5,c6,c7,c8,hp,hbd⟩:=rargs_at (rargs_frame hb hA) hki
   simp only[Nat.zero_add] at c0 c1 c2 c3 c4 c5 c6 c7 c8;have hszr:=sizR_mem (List.getElem_mem hkl);have call:=lToRule (r:=rs[k]) hp hbd (by have:=cnts_siz rs[k].2.1;omega) (by have:=cnts_siz rs[k].2.2;omega);have hxl:=rules_len (ap_is hN)
   rw[List.length_take,Nat.min_eq_left (by omega)] at hxl
   have hTK:rs.take (k+1)=rs.take k++[rs[k]]:=by rw[List.take_add_one,hki];rfl
   obtain⟨m,hm⟩:∃ m,rs.length - k=m+1:=⟨rs.length - k - 1,by omega⟩
   have hm2:rs.length - (k+1)=m:=by omega
   rw[hm] at hP
   obtain⟨pao,pcap,rfl,rfl,rfl,rfl,-,-⟩:=arg_open hp
   obtain⟨bao,bcap,rfl,rfl,rfl,rfl,-,-⟩:=arg_open hbd
   have HTK:Hid _:=hTK;have HM2:Hid _:=hm2;clear hp hbd hki hm hm2 hTK hszr;have bk:(k:Int)<rs.length:=by omega
   clear hsz hlen hmk
   go_wp2_with (go_at_call 20;refine call.mono ?_;rintro e w2 ⟨vp,vb,mid,rfl,hm1,hm2,hN2,hM2,hb2⟩;have hP2:=(hb2.block _ hql).trans hP;obtain⟨_,_,_,ao2,cap2,_,-,-,-,-,hv,-⟩:=node_form hN2;subst hv;obtain⟨_,_,_,ao3,cap3,_,-,-,-,-,hv,-⟩:=node_form hM2;subst hv;obtain⟨y0,y1,y2,y3,y4,y5,y6,y7,y8,fz⟩:=row9_at hP2 hxl)
   have hb3:Below w.heap.size w w2:=hb.trans (hb2.mono hb.size);go_roundw
   case rel =>
    refine⟨k+1,xs++[.int .i64 rs[k].1,.int .i64 (opOf rs[k].2.1),.int .i64 (numOf rs[k].2.1),.string ⟨(txtOf rs[k].2.1).toArray⟩,.slice ao2 (kidsOf rs[k].2.1).length cap2,.int .i64 (opOf rs[k].2.2),.int .i64 (numOf rs[k].2.2),.string ⟨(txtOf rs[k].2.2).toArray⟩,.slice ao3 (kidsOf rs[k].2.2).length cap3],by go_num,hkl,?_,?_,below_put9 hb3 (Nat.le_refl _) _ _ _ _ _ _ _ _ _ _⟩
    ·rw[HM2.out]
     exact put9_row hP2 hxl _ _ _ _ _ _ _ _ _
    ·rw[HTK.out]
     have hz2:=hb2.size;refine ap_frame (w:=w2) (S:=Iv (w.heap.size+1) (put9 w2 w.heap.size (k*9) (.int .i64 rs[k].1) (.int .i64 (opOf rs[k].2.1)) (.int .i64 (numOf rs[k].2.1)) (.string ⟨(txtOf rs[k].2.1).toArray⟩) (.slice ao2 (kidsOf rs[k].2.1).length cap2) (.int .i64 (opOf rs[k].2.2)) (.int .i64 (numOf rs[k].2.2)) (.string ⟨(txtOf rs[k].2.2).toArray⟩) (.slice ao3 (kidsOf rs[k].2.2).length cap3)).heap.size) (fun j hj=>put9_other _ _ _ _ _ _ _ _ _ _ _ _ _ (by have:=hj.1;omega)) ?_
     rw[put9_size]
     refine ap_mono (fun j hj=>?_) (ap_snoc (S:=Iv (w.heap.size+1) wr.heap.size) hN2 hM2 (fun j hj hj'=>by have:=hj.2;have:=hj'.1;omega) (fun j hj=>⟨fun h=>by have:=hj.2;have:=h.1;omega,fun h=>by have:=hj.2;have:=h.1;omega⟩) (ap_frame (fun j hj=>hb2.block j hj.2) hN));rcases hj with hj|hj|hj
     ·exact⟨hj.1,by have:=hj.2;omega⟩
     ·exact⟨by have:=hj.1;omega,by have:=hj.2;omega⟩
     ·exact⟨by have:=hj.1;omega,hj.2⟩
   case measure=>simp[intOf];omega
  ·obtain rfl:k=rs.length:=by omega
   go_wp2_with fail;go_ret
   rw[Nat.sub_self] at hP
   rw[List.take_length] at hN
   simp only[zeros9,List.replicate_zero,List.flatten_nil,List.append_nil] at hP
   refine⟨_,xs,rfl,⟨rules_len (ap_is hN),.inr ⟨w.heap.size,rs.length,_,rfl,Nat.le_refl _,hP,Nat.le_refl _,by unfold maxLen;omega,by simp[rules_len (ap_is hN)],by rw[← rules_len (ap_is hN)];simp⟩⟩,hN,rfl,hb⟩

end Ty
namespace Cm
open St (Vl encV)
open Nd Ty
open Pg (RdT idx)
open Oc (hold Blk)

def rulesP (iv ic:ByteArray→Int)(rs:List Ru):Pt:=seqs (rs.map (ruleP iv ic))
theorem rulesP_take (iv ic:ByteArray→Int){rs:List Ru}{k:Nat}{r:Ru}(h:rs[k]?=some r)(b:Nat):rulesP iv ic (rs.take (k+1)) b=rulesP iv ic (rs.take k) b++ruleP iv ic r (b+(rulesP iv ic (rs.take k) b).length):=by
 unfold rulesP
 rw[List.take_add_one,h]
 simp only[Option.toList_some,List.map_append,List.map_cons,List.map_nil,seqs_append];simp[seqs]
theorem rulesP_len (iv ic:ByteArray→Int)(rs:List Ru)(k b:Nat):(rulesP iv ic (rs.take k) b).length≤(rulesP iv ic rs b).length:=by
 have:rulesP iv ic rs b=rulesP iv ic (rs.take k) b++rulesP iv ic (rs.drop k) (b+(rulesP iv ic (rs.take k) b).length):=by
  unfold rulesP
  rw[← seqs_append,← List.map_append,List.take_append_drop]
 rw[this,List.length_append]
 omega
theorem drop_rule {w:World}{rs:List Ru}{q:Nat}(hql:q<rs.length){S:Nat→Prop}{xs:List Value}(h:RulesAp w (rs.drop q) S (xs.drop (q*9))):
  ∃ (p0 p1 p2 p3 b0 b1 b2 b3:Value) (Sp Sb Sr:Nat→Prop),NodeIs w rs[q].2.1 Sp [p0,p1,p2,p3]∧NodeIs w rs[q].2.2 Sb [b0,b1,b2,b3]∧RulesAp w (rs.drop (q+1)) Sr (xs.drop ((q+1)*9)) ∧
   (∀ k,Sp k→S k∧¬ Sb k∧¬ Sr k)∧(∀ k,Sb k→S k∧¬ Sr k)∧(∀ k,Sr k→S k)∧∀ j x,([.int .i64 rs[q].1,p0,p1,p2,p3,b0,b1,b2,b3]:List Value)[j]?=some x→xs[q*9+j]?=some x:=by
 rw[List.drop_eq_getElem_cons hql] at h
 obtain⟨p0,p1,p2,p3,b0,b1,b2,b3,c,Sp,Sb,Sr,hx,h1,h2,h3,k1,k2,k3⟩:=h
 have hd2:c=xs.drop ((q+1)*9):=by
  have h9:(xs.drop (q*9)).drop 9=c:=by rw[hx];rfl
  rw[← h9,List.drop_drop,show (q+1)*9=q*9+9 by omega]
 refine⟨p0,p1,p2,p3,b0,b1,b2,b3,Sp,Sb,Sr,h1,h2,by rw[← hd2];exact h3,k1,k2,k3,fun j x hj=>?_⟩
 have:(xs.drop (q*9))[j]?=some x:=by
  rw[hx]
  have:(.int .i64 rs[q].1::p0::p1::p2::p3::b0::b1::b2::b3::c:List Value)=[.int .i64 rs[q].1,p0,p1,p2,p3,b0,b1,b2,b3]++c:=rfl
  rw[this,List.getElem?_append_left (by simpa using (List.getElem?_eq_some_iff.1 hj).1)]
  exact hj
 simpa using this

theorem catch_pan {B:Nat}{v:Value}{ad:Addr}{w:World}(hb:Blk 25 w B [v])(hv:∃ ao n cap,v=.slice ao n cap):
  CallsD Tryz.prog 57 #[.pointer (some ⟨B,0,none⟩)] (.panicking [{ v:=errV ad,recovered:=false }]) w fun e u' w' =>
   e=.returned (.tuple #[])∧u'=.panicking [{ v:=errV ad,recovered:=true }]∧Blk 25 w' B [.slice none 0 0]∧Below B w w':=by
 obtain⟨ao,n,cap,rfl⟩:=hv
 have c0:=hb.cell 0 rfl;have y0:=hb.frozen 0;unfold errV;refine callsD_of_wpS Tryz.func57 rfl fun c₀ cs hu=>?_;apply wpS_seq;apply wpS_region;simp[wpOpsS,go_sem,recoverD,hu,Tryz.ntmps57,Exit.thenS];refine wpS_cond (t:=true) (by simp[Act.eval,Array.replicate]) ?_;simp only[if_true];apply wpS_region;simp[wpOpsS,go_sem,c0,y0,bodyPostS,results,Tryz.results57]
 exact⟨hb.set 0 _,(Below.refl B w).setCell (p:=⟨B,0,none⟩) (Nat.le_refl _) _⟩
theorem catch_ret {B:Nat}{w:World}:
  CallsD Tryz.prog 57 #[.pointer (some ⟨B,0,none⟩)] .returning w fun e u' w'=>e=.returned (.tuple #[])∧u'=.returning∧w'=w:=by
 refine callsD_of_wpS Tryz.func57 rfl fun c₀ cs hu=>?_;apply wpS_seq;apply wpS_region;simp[wpOpsS,go_sem,recoverD,hu,Tryz.ntmps57,Exit.thenS];refine wpS_cond (t:=false) (by simp[Act.eval,Array.replicate]) ?_;simp only[Bool.false_eq_true,if_false];refine wpS_of_wp (wp_skip ?_);cases c₀;simp_all [bodyPostS,results,Tryz.results57]

def PlacesOut (L:List Vl)(w:World)(e:Ending)(w':World):Prop:=∃ v,e=.returned v∧Below w.heap.size w w'∧((w'.ownsRow w.heap.size 57 3 v L.length (L.flatMap encV)∧L.length≤1500)∨(v=.slice none 0 0∧1500<L.length))

theorem at_below {X:Fx}{w0:World}{bxs:List (Nat × TypeId × List Value)}{G:List Nat}{S R:Nat→Prop}{L:List Vl}{w':World}(h:At X w0 bxs G S R L w'):Below X.W.heap.size X.W w':=by
 obtain⟨_,_,h,_⟩:=h
 exact h.below

set_option maxHeartbeats 2000000 in
set_option maxRecDepth 100000 in
theorem iPlacesOf {vars cells:List ByteArray}{va ca:Option Addr}{vc cc:Nat}{rs:List Ru}{ao:Option Addr}{cap:Nat}{xs:List Value}{S:Nat→Prop}{ad:Addr}{w:World}(hv:RdT w va vars)(hc:RdT w ca cells)(hvn:vars.length≤1048576)(hcn:cells.length≤1048576)(herr:w.cell? ⟨1,0,none⟩=some (errV ad))
  (htab:∀ op:Nat,(op=6∨op=7∨op=8∨(9≤op∧op≤20)∨op=22∨op=23∨op=33∨op=35)→w.cell? ⟨3,op,none⟩=some (.int .i64 (plainC op)))
  (hn:rs.length≤1048576) (hrow:0<rs.length→∃ g o,ao=some ⟨g,o,none⟩∧∀ j x,xs[j]?=some x→w.cell? ⟨g,o+j,none⟩=some x) (hr:RulesAp w rs S xs) (hlt:∀ k,S k→k<w.heap.size)
  (hok:∀ r∈rs,allB r.2.2=true∧(r.1=3→allB r.2.1=true)∧cnt r.2.1≤1048577∧cnt r.2.2≤1048577):
  Calls Tryz.prog 23 #[.agg #[.slice va vars.length vc,.slice ca cells.length cc],.slice ao rs.length cap] w fun e w'=>PlacesOut (rulesP (idx vars) (idx cells) rs 0++[(36,0,none')]) w e w':=by
 have hmk:=@run_makeMap Tryz.prog;have hmf:∀ (fn:Fn) (first cap:Array Value) (w:World),(Instr.makeFunc fn first cap).run Tryz.prog w=.ok (.func fn first cap) w:=fun _ _ _ _=>rfl
 obtain⟨W0,hW0⟩:∃ W0,W0=(w.alloc (.cells #[.slice va vars.length vc,.slice ca cells.length cc] 61)).alloc (.cells #[.slice none 0 0] 25):=⟨_,rfl⟩
 have hsz:W0.heap.size=w.heap.size+1+1:=by rw[hW0];simp
 have hb0:Below w.heap.size w W0:=by rw[hW0];exact ((Below.refl _ w).alloc (Nat.le_refl _) _).alloc (by simp) _
 have hres0:Blk 25 W0 (w.heap.size+1) [.slice none 0 0]:=by
  have:=Blk.new 25 (w.alloc (.cells #[.slice va vars.length vc,.slice ca cells.length cc] 61)) [.slice none 0 0]
  rw[World.size_alloc] at this
  rw[hW0]
  exact this
 obtain⟨X,hX⟩:∃ X:Fx,X=⟨W0,w.heap.size+1+1+1,w.heap.size+1+1,va,ca,vc,cc,vars,cells,ad⟩:=⟨_,rfl⟩
 have hXW:X.W=W0:=by rw[hX]
 have hXp:X.p=w.heap.size+1+1+1:=by rw[hX]
 have hXv:X.iv=idx vars:=by rw[hX];rfl
 have hXc:X.ic=idx cells:=by rw[hX];rfl
 have hXa:X.ad=ad:=by rw[hX]
 have hT:Tab X:=fun op hop=>by rw[hXW];exact (hb0.cell (World.block_lt_of_cell? _ _ (htab op hop))).trans (htab op hop)
 obtain⟨W3,hW3⟩:∃ W3,W3=(W0.alloc (.map #[] 0)).alloc (.cells #[.slice va vars.length vc,.slice ca cells.length cc,.slice none 0 0,.map (some (w.heap.size+1+1))] 90):=⟨_,rfl⟩
 have hwk:Wk X [] [] W3:=by
  have hm:MapIs W3 (w.heap.size+1+1) []:=by
   rw[hW3,← hsz]
   exact (mapIs_made W0).same (Below.heap_alloc _ _ _ (by simp))
  have hp:Blk 90 W3 (w.heap.size+1+1+1) [.slice va vars.length vc,.slice ca cells.length cc,.slice none 0 0,.map (some (w.heap.size+1+1))]:=by
   have:=Blk.new 90 (W0.alloc (.map #[] 0)) [.slice va vars.length vc,.slice ca cells.length cc,.slice none 0 0,.map (some (w.heap.size+1+1))]
   rw[World.size_alloc,hsz] at this
   rw[hW3]
   exact this
  have hb3:Below W0.heap.size W0 W3:=by rw[hW3];exact ((Below.refl _ W0).alloc (Nat.le_refl _) _).alloc (by simp) _
  subst hX
  exact⟨hb3,by show W0.heap.size≤w.heap.size+1+1+1;omega,by show W0.heap.size≤w.heap.size+1+1;omega,⟨none,0,hp,World.ownsRow_nil _ _ _ _⟩,hm,fun g hg=>by simp at hg,hv.below hb0,hc.below hb0,hvn,hcn,(hb0.cell (World.block_lt_of_cell? _ _ herr)).trans herr,by simp⟩
 have hAt0:At X W3 [] [] S S (rulesP X.iv X.ic (rs.take 0) 0) W3:=at_none hwk (fun g hg=>by simp at hg) (fun _ h=>h);have HR0:Hid (RulesAp X.W rs S xs):=by show RulesAp X.W rs S xs;rw[hXW];exact ap_frame (fun k hk=>hb0.block k (hlt k hk)) hr
 have HROW:Hid (0<rs.length→∃ g o,ao=some ⟨g,o,none⟩∧∀ j x,xs[j]?=some x→X.W.cell? ⟨g,o+j,none⟩=some x):=fun h=>by
  obtain⟨g,o,e,h1⟩:=hrow h
  exact⟨g,o,e,fun j x hj=>by rw[hXW];exact (hb0.cell (World.block_lt_of_cell? _ _ (h1 j x hj))).trans (h1 j x hj)⟩
 have HOK:Hid (∀ r∈rs,(r.1=3→NodeOk X r.2.1)∧BlockOk X r.2.2):=fun r hr=>by
  obtain⟨a1,a2,a3,a4⟩:=hok r hr
  refine⟨fun h3=>nodeOk hT _ _ (Nat.le_refl _) a3 (a2 h3),?_⟩
  have c2:=cnt_kids r.2.2;refine iBlock (iNodes (fun q hq=>?_) (by have:=cnts_len (kidsOf r.2.2);omega)) (by have:=cnts_len (kidsOf r.2.2);omega);have c3:=cnts_mem hq;exact nodeOk hT _ q (Nat.le_refl _) (by omega) (all_kids a1 q hq)
 have HEND:Hid (∀ w',Below X.W.heap.size X.W w'→Blk 25 w' (w.heap.size+1) [.slice none 0 0]∧Below w.heap.size w w'):=fun w' h=>by
  rw[hXW] at h
  exact⟨hres0.below h,hb0.trans (h.mono hb0.size)⟩
 rw[← hXv,← hXc]
 obtain⟨L,hL⟩:=hid_eq (rulesP X.iv X.ic rs 0++[(36,0,none')])
 rw[← hL.out]
 have HX:Hid (X.W.heap.size=w.heap.size+1+1∧X.ad=ad):=⟨by rw[hXW,hsz],hXa⟩;have HA0:Hid (At X W3 [] [] S S (rulesP X.iv X.ic (rs.take 0) 0) W3):=hAt0;have bn:(rs.length:Int)≤1048576:=by omega
 have HP:Hid (X.p=w.heap.size+1+1+1):=hXp;clear hAt0 hwk hT hX hXW hXv hXc hXa hres0 hb0 hr hrow hok htab herr hv hc hXp hlt
 go_enter_defers Tryz.func23,Tryz.ntmps23
 go_wp2_with fail
 rw[← hW0,← hW3]
 clear hW0 hW3 hmk hmf
 go_loopw [7,15] (fun _ i wr=>∃ k:Nat,k≤rs.length∧i=.int .i64 k∧Hid (∃ Sr,RulesAp X.W (rs.drop k) Sr (xs.drop (k*9))∧(∀ k,Sr k→S k)∧At X W3 [] [] S Sr (rulesP X.iv X.ic (rs.take k) 0) wr)) (fun _ i _=>rs.length - (intOf i).toNat)
 case atStart=>exact⟨0,Nat.zero_le _,rfl,S,by simpa using HR0.out,fun _ h=>h,HA0.out⟩
 case round =>
  clear HR0 HA0
  obtain⟨k,hkn,rfl,HH⟩:=hrel
  obtain⟨hxs,hxa⟩:=HX.out
  by_cases hkl:k<rs.length
  ·obtain⟨Sr,h1,h2,h5⟩:=HH.out
   obtain⟨p0,p1,p2,p3,b0,b1,b2,b3,Sp,Sb,Sn,i1,i2,i3,k1,k2,k3,hx⟩:=drop_rule hkl h1
   obtain⟨g,o,rfl,hc⟩:=HROW.out (by omega)
   obtain⟨ap,cp,rfl,rfl,rfl,rfl⟩:=node_vals i1
   obtain⟨ab,cb,rfl,rfl,rfl,rfl⟩:=node_vals i2
   have c0:=h5.wk (hc _ _ (hx 0 _ rfl));have c1:=h5.wk (hc _ _ (hx 1 _ rfl));have c2:=h5.wk (hc _ _ (hx 2 _ rfl));have c3:=h5.wk (hc _ _ (hx 3 _ rfl));have c4:=h5.wk (hc _ _ (hx 4 _ rfl));have c5:=h5.wk (hc _ _ (hx 5 _ rfl));have c6:=h5.wk (hc _ _ (hx 6 _ rfl));have c7:=h5.wk (hc _ _ (hx 7 _ rfl));have c8:=h5.wk (hc _ _ (hx 8 _ rfl));simp only[← Nat.add_assoc,Nat.add_zero] at c0 c1 c2 c3 c4 c5 c6 c7 c8;have bk:(k:Int)<rs.length:=by omega
   obtain⟨wa,hwa⟩:∃ wa,wa=wr.alloc (.cells #[.int .i64 rs[k].1,.int .i64 (opOf rs[k].2.1),.int .i64 (numOf rs[k].2.1),.string ⟨(txtOf rs[k].2.1).toArray⟩,.slice ap (kidsOf rs[k].2.1).length cp,.int .i64 (opOf rs[k].2.2),.int .i64 (numOf rs[k].2.2),.string ⟨(txtOf rs[k].2.2).toArray⟩,.slice ab (kidsOf rs[k].2.2).length cb] 53):=⟨_,rfl⟩
   have hA:At X W3 [] [] S Sr (rulesP X.iv X.ic (rs.take k) 0) wa:=by rw[hwa];exact h5.later ((Below.refl _ _).alloc (Nat.le_refl _) _)
   have CALL:Hid (Calls Tryz.prog 58 #[.pointer (some ⟨w.heap.size+1+1+1,0,none⟩),.agg #[.int .i64 rs[k].1,.int .i64 (opOf rs[k].2.1),.int .i64 (numOf rs[k].2.1),.string ⟨(txtOf rs[k].2.1).toArray⟩,.slice ap (kidsOf rs[k].2.1).length cp,.int .i64 (opOf rs[k].2.2),.int .i64 (numOf rs[k].2.2),.string ⟨(txtOf rs[k].2.2).toArray⟩,.slice ab (kidsOf rs[k].2.2).length cb]] wa fun e w'=>Step X (.tuple #[]) W3 [] [] S Sn (rulesP X.iv X.ic (rs.take (k+1)) 0) e w'):=by
    obtain⟨G',j1,j2,j3,j4⟩:=hA
    have ok:=HOK.out rs[k] (List.getElem_mem hkl)
    have:=iRule (S:=fun q=>Sp q∨Sb q) ok.1 ok.2 j2 i1 i2 (fun q hq=>⟨.inl hq,(k1 q hq).2.1⟩) (fun q hq=>.inr hq) (fun q hq hs=>(j1 q hq).2 (hs.elim (fun h=>(k1 q h).1) (fun h=>(k2 q h).1)))
    rw[HP.out] at this
    rw[rulesP_take X.iv X.ic (List.getElem?_eq_getElem hkl) 0,Nat.zero_add]
    exact this.mono fun e w' hr=>ran_step hr (fun q hq=>⟨(j1 q hq).1,fun hs=>(j1 q hq).2 (k3 q hs)⟩) (fun q hq=>hq.elim (fun h=>⟨h2 q (k1 q h).1,(k1 q h).2.2⟩) (fun h=>⟨h2 q (k2 q h).1,(k2 q h).2⟩)) j3 j4
   have HI:Hid (RulesAp X.W (rs.drop (k+1)) Sn (xs.drop ((k+1)*9))∧(∀ k,Sn k→S k)):=⟨i3,fun q hq=>h2 q (k3 q hq)⟩;have HLN:Hid ((rulesP X.iv X.ic (rs.take (k+1)) 0).length≤L.length):=by
    show _≤_
    rw[hL.out,List.length_append]
    have:=rulesP_len X.iv X.ic rs (k+1) 0
    omega
   clear hA h1 h2 h5 HH i1 i2 i3 k1 k2 k3 hx hc;generalize rs[k].1=kd at *;generalize opOf rs[k].2.1=o1 at *;generalize numOf rs[k].2.1=n1 at *;generalize txtOf rs[k].2.1=s1 at *;generalize (kidsOf rs[k].2.1).length=l1 at *;generalize opOf rs[k].2.2=o2 at *;generalize numOf rs[k].2.2=n2 at *;generalize txtOf rs[k].2.2=s2 at *;generalize (kidsOf rs[k].2.2).length=l2 at *
   go_wp2_with (go_at_call 58;refine hold ?_)
   rw[← hwa]
   clear hwa;refine Calls.mono CALL.out ?_;clear c0 c1 c2 c3 c4 c5 c6 c7 c8;rintro e w2 (⟨rfl,hn',hB⟩|⟨rfl,hK⟩)
   ·clear CALL HI;go_wp2_with fail
    rw[hxa] at *
    obtain⟨r1,r2⟩:=HEND.out _ hB
    refine leaves_cons (f:=57) (args:=#[.pointer (some ⟨w.heap.size+1,0,none⟩)]) (by simp) (by simp[go_sem]) ?_;refine (catch_pan r1 ⟨_,_,_,rfl⟩).mono ?_;rintro e u' w'' ⟨rfl,rfl,hz,hbz⟩;have z0:=hz.cell 0 rfl;have HF:Hid (PlacesOut L w (.returned (.slice none 0 0)) w''):=⟨_,rfl,r2.trans (hbz.mono (by omega)),.inr ⟨rfl,by have:=HLN.out;omega⟩⟩;clear hz hbz r1 r2;simp[Leaves,settle,results,Tryz.results23,go_sem,z0];exact HF.out
   have HR:Hid (∃ Sr,RulesAp X.W (rs.drop (k+1)) Sr (xs.drop ((k+1)*9))∧(∀ k,Sr k→S k)∧At X W3 [] [] S Sr (rulesP X.iv X.ic (rs.take (k+1)) 0) w2):=⟨Sn,HI.out.1,HI.out.2,hK⟩;clear hK HI CALL HLN;go_wp2_with fail;go_roundw
   case rel=>exact⟨k+1,hkl,by go_num,HR⟩
   case measure=>simp[intOf];omega
  ·obtain rfl:k=rs.length:=by omega
   obtain⟨Sr,h1,h2,h5⟩:=HH.out
   rw[List.take_length] at h5
   have CALL:Hid (Calls Tryz.prog 59 #[.pointer (some ⟨w.heap.size+1+1+1,0,none⟩),.int .i64 36,.int .i64 0,.string ⟨#[]⟩] wr fun e w'=>Step X (.tuple #[]) W3 [] [] S Sr L e w'):=by
    have:=at_put h5 36 0 none'
    rw[HP.out] at this
    rw[hL.out]
    exact this
   clear h1 h2 h5 HH
   go_wp2_with (go_at_call 59;refine hold ?_)
   refine Calls.mono CALL.out ?_;rintro e w2 (⟨rfl,hn',hB⟩|⟨rfl,hK⟩)
   ·clear CALL;go_wp2_with fail
    rw[hxa] at *
    obtain⟨r1,r2⟩:=HEND.out _ hB
    refine leaves_cons (f:=57) (args:=#[.pointer (some ⟨w.heap.size+1,0,none⟩)]) (by simp) (by simp[go_sem]) ?_;refine (catch_pan r1 ⟨_,_,_,rfl⟩).mono ?_;rintro e u' w'' ⟨rfl,rfl,hz,hbz⟩;have z0:=hz.cell 0 rfl;have HF:Hid (PlacesOut L w (.returned (.slice none 0 0)) w''):=⟨_,rfl,r2.trans (hbz.mono (by omega)),.inr ⟨rfl,hn'⟩⟩;clear hz hbz r1 r2;simp[Leaves,settle,results,Tryz.results23,go_sem,z0];exact HF.out
   clear CALL
   obtain⟨r1,r2⟩:=HEND.out _ (at_below hK)
   obtain⟨G2,j1,j2,j3,j4⟩:=hK
   obtain⟨ao2,cap2,m1,m2⟩:=j2.blk
   rw[HP.out] at m1
   have q2:=m1.cell 2 rfl;have t0:=r1.cell 0 rfl;have t1:=r1.frozen 0;have hlen:=j2.len
   obtain⟨N,hN⟩:=hid_eq L.length
   have HF:Hid (PlacesOut L w (.returned (.slice ao2 N cap2)) (w2.setCell ⟨w.heap.size+1,0,none⟩ (.slice ao2 N cap2))):=by
    rw[hN.out]
    refine⟨_,rfl,r2.setCell (by simp) _,.inl ⟨owns_base (owns_same m2 fun g hg=>Below.heap_setCell _ _ _ _ ?_) (by omega),hlen⟩⟩
    have:=(m2.lt g hg).1
    show g≠w.heap.size+1;omega
   have hR':=r1.set 0 (.slice ao2 N cap2);have z0:=hR'.cell 0 rfl
   rw[← hN.out] at q2
   clear r1 r2 j1 j2 j3 j4 m1 m2 hR' hlen;go_wp2_with fail;refine leaves_cons (f:=57) (args:=#[.pointer (some ⟨w.heap.size+1,0,none⟩)]) (by simp) (by simp[go_sem]) ?_;refine catch_ret.mono ?_;rintro e u' w'' ⟨rfl,rfl,rfl⟩;simp[Leaves,settle,results,Tryz.results23,go_sem,z0];exact HF.out

end Cm
namespace Ck
open Nd Ty

structure Keep (S:Nat→Prop)(W W':World):Prop where
 size:W.heap.size≤W'.heap.size
 same:∀ k o,W.heap[k]?=some o→¬ S k→(o.isCells=true∨o.isWalk=true)→W'.heap[k]?=some o
 no:∀ k,S k→¬ Cellsy W k→¬ Cellsy W' k
theorem Keep.refl (S:Nat→Prop)(W:World):Keep S W W:=⟨Nat.le_refl _,fun _ _ h _ _=>h,fun _ _ h=>h⟩
theorem Keep.trans {S:Nat→Prop}{A B C:World}(h:Keep S A B)(h':Keep S B C):Keep S A C :=
 ⟨Nat.le_trans h.size h'.size,fun k o hk hS ho=>h'.same k o (h.same k o hk hS ho) hS ho,fun k hS hn=>h'.no k hS (h.no k hS hn)⟩
theorem Keep.put {S:Nat→Prop}{n:Nat}(hS:∀ k,S k→k<n)(W:World)(l:Nat)(o o':Obj)(hl:n≤l)(h:W.heap[l]?=some o)(ho:o.isCells=false)(hw:o.isWalk=false):Keep S W (W.putObj l o'):=by
 have hlt:=heap_lt h
 refine⟨by simp[World.putObj],fun k x hk _ hx=>?_,fun k hk hn=>?_⟩
 ·have:k≠l:=by
   rintro rfl
   rw[h] at hk
   cases hk
   rw[ho,hw] at hx
   simp at hx
  rw[World.putObj_heap_other this]
  exact hk
 ·have:k≠l:=by have:=hS k hk;omega
  unfold Cellsy
  rw[World.putObj_heap_other this]
  exact hn
theorem Keep.below {S:Nat→Prop}{W W':World}(hS:∀ k,S k→k<W.heap.size)(h:Below W.heap.size W W'):Keep S W W' :=
 ⟨h.size,fun k o hk _ _=>(h.block k (heap_lt hk)).trans hk,fun k hk hn hc=>hn (by obtain⟨cur,hc⟩:=hc;exact⟨cur,(h.block k (hS k hk)).symm.trans hc⟩)⟩
theorem Keep.nodes {S:Nat→Prop}{W W':World}(h:Keep S W W')(hS:∀ k,S k→¬ Cellsy W k){g:Nat}(hg:Cellsy W g):W'.heap[g]?=W.heap[g]?:=by
 have hn:¬ S g:=fun hs=>hS g hs hg
 obtain⟨cur,hc⟩:=hg
 rw[hc]
 exact h.same g _ hc hn (.inl rfl)
theorem Keep.cells {S:Nat→Prop}{W W':World}(h:Keep S W W'){g:Nat}{cur:Array Value}{t:TypeId}{r:Nat × Nat}(hn:¬ S g)(hg:W.heap[g]?=some (.cells cur t r)):W'.heap[g]?=some (.cells cur t r):=h.same g _ hg hn (.inl rfl)
theorem Keep.map {S:Nat→Prop}{W W':World}(h:Keep S W W'){m:Nat}{G:List Nat}(hn:¬ S m)(hg:MapIs W m G):MapIs W' m G:=by
 obtain⟨es,c,h1,h2⟩:=hg
 exact⟨es,c,h.same m _ h1 hn (.inr rfl),h2⟩
theorem Keep.row {S:Nat→Prop}{W W':World}(h:Keep S W W'){B e size n:Nat}{v:Value}{xs:List Value}(ho:W.ownsRow B e size v n xs)(hn:∀ g,v.ownBlock=some g→¬ S g):W'.ownsRow B e size v n xs :=
 owns_same ho fun g hg=>by
  rcases ho.2 with ⟨e,_⟩|⟨g',cap,cur,e,_,hb,_⟩
  ·rw[e] at hg;simp[Value.ownBlock] at hg
  ·rw[e] at hg;simp[Value.ownBlock] at hg;subst hg
   rw[hb]
   exact h.same _ _ hb (hn _ (by rw[e];rfl)) (.inl rfl)

theorem ap_cells {w:World}:∀ {rs:List Ru} {S:Nat→Prop} {xs:List Value},RulesAp w rs S xs→RulesAp w rs (fun k=>S k∧Cellsy w k) xs
 | [],S,xs,h=>h
 | r::rs,S,xs,h=>by
  obtain⟨p0,p1,p2,p3,b0,b1,b2,b3,c,Sp,Sb,Sr,rfl,h1,h2,h3,k1,k2,k3⟩:=h
  exact⟨p0,p1,p2,p3,b0,b1,b2,b3,c,_,_,_,rfl,nodes_cells _ _ _ h1,nodes_cells _ _ _ h2,ap_cells h3,fun k hk=>⟨⟨(k1 k hk.1).1,hk.2⟩,fun h=>(k1 k hk.1).2.1 h.1,fun h=>(k1 k hk.1).2.2 h.1⟩,fun k hk=>⟨⟨(k2 k hk.1).1,hk.2⟩,fun h=>(k2 k hk.1).2 h.1⟩,fun k hk=>⟨k3 k hk.1,hk.2⟩⟩
theorem ap_open {w:World}{r:Ru}{rs:List Ru}{S:Nat→Prop}{xs:List Value}(h:RulesAp w (r::rs) S xs):∃ (p0 p1 p2 p3 b0 b1 b2 b3:Value) (Sp Sb Sr:Nat→Prop),xs=.int .i64 r.1::p0::p1::p2::p3::b0::b1::b2::b3::xs.drop 9∧NodeIs w r.2.1 Sp [p0,p1,p2,p3]∧NodeIs w r.2.2 Sb [b0,b1,b2,b3]∧RulesAp w rs Sr (xs.drop 9) ∧
   (∀ k,Sp k→S k∧¬ Sb k∧¬ Sr k)∧(∀ k,Sb k→S k∧¬ Sr k)∧(∀ k,Sr k→S k):=by
 obtain⟨p0,p1,p2,p3,b0,b1,b2,b3,c,Sp,Sb,Sr,rfl,h⟩:=h
 exact⟨p0,p1,p2,p3,b0,b1,b2,b3,Sp,Sb,Sr,rfl,h⟩

structure Nde (w:World)(rs:List Ru) where
 rule:Nat
 t:Data
 a:Value
 b:Value
 c:Value
 u:Value
 S:Nat→Prop
 is:NodeIs w t S [a,b,c,u]
 cy:∀ k,S k→Cellsy w k
 sz:siz t≤1048576
 mem:(rule,t)∈visit 0 rs
def Nde.key {w:World}{rs:List Ru}(x:Nde w rs):Nat × Data:=(x.rule,x.t)
def Nde.encs {w:World}{rs:List Ru}(x:Nde w rs):Array Value:=#[.int .i64 x.rule,.agg #[x.a,x.b,x.c,x.u]]

theorem siz_kid {t:Data}:∀ {k:Data},k∈kidsOf t→siz k≤siz t:=fun h=>by have:=sizs_mem h;have:=siz_kids t;omega
theorem siz_below {ls:List (List Data)}{n:Nat}(h:∀ t∈ls.flatten,siz t≤n):∀ t∈(below ls).flatten,siz t≤n:=by
 rw[below_flat]
 generalize ls.flatten=ts at h
 induction ts with
 | nil=>intro t ht;simp[below1] at ht
 | cons a ts ih =>
  intro t ht
  rw[below1,List.flatten_append,List.mem_append] at ht
  rcases ht with ht|ht
  ·split at ht
   ·simp at ht
   ·simp at ht
    have:=siz_kid ht
    have:=h a (by simp)
    omega
  ·exact ih (fun t ht=>h t (by simp[ht])) t ht
theorem visit_sub {rs:List Ru}(k:Nat):∃ q,visit 0 rs=visit 0 (rs.take k)++q:=⟨visit (0+(rs.take k).length) (rs.drop k),by rw[← visit_append,List.take_append_drop]⟩
theorem len_flat {ls:List (List Data)}(h:∀ l∈ls,l≠[]):ls.length≤ls.flatten.length:=by
 induction ls with
 | nil=>simp
 | cons l ls ih =>
  have h1:=h l (by simp);have h2:=ih fun l hl=>h l (by simp[hl])
  have:0<l.length:=List.length_pos_iff.2 h1
  simp only[List.length_cons,List.flatten_cons,List.length_append];omega

end Ck
end Go.Proofs.YtllbachngocmnaaGreatDoor
