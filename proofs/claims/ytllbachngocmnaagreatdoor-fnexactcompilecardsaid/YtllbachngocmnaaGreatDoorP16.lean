/-
  Places hang on the numbers of the names that are there alone.
-/
import Derived.Test.YtllbachngocmnaaGreatDoorP14
import Derived.Test.YtllbachngocmnaaGreatDoorP15
namespace Go.Proofs.YtllbachngocmnaaGreatDoor
open Go.RowKit
namespace Cm
open St (Vl encV)
open Nd Ty Ck
open Pg (idx eqB)

theorem idx_same {ss:List ByteArray}{s:ByteArray}(h:∃ x∈ss,x.toList=s.toList):idx ss s=Sp.idx0 ss s:=by
 obtain⟨x,hx,he⟩:=h
 unfold idx Sp.idx0;rcases hf:ss.findIdx? (eqB · s) with _|k
 ·rw[List.findIdx?_eq_none_iff] at hf
  have:=hf x hx
  unfold eqB at this
  rw[decide_eq_true he] at this
  cases this
 ·rfl
theorem word_congr {iv ic iv' ic':ByteArray→Int}{op n:Int}{s:List UInt8}(k:Nat)(h4:op=4→iv (tx s)=iv' (tx s))(h5:op=5∨op=34→ic (tx s)=ic' (tx s)):wordV iv ic op n s k=wordV iv' ic' op n s k:=by
 unfold wordV
 by_cases a4:op=4
 ·subst a4;simp[h4 rfl]
 by_cases a5:op=5
 ·subst a5;simp[h5 (.inl rfl)]
 by_cases a34:op=34
 ·subst a34;simp[h5 (.inr rfl)]
 simp only[if_neg a4,if_neg a5,if_neg a34]
theorem comp_congr {iv ic iv' ic':ByteArray→Int}:∀ (m:Nat) (t:Data),cnt t≤m→allB t=true→(∀ x∈subs t,opOf x=4→iv (tx (txtOf x))=iv' (tx (txtOf x)))→(∀ x∈subs t,opOf x=5∨opOf x=34→ic (tx (txtOf x))=ic' (tx (txtOf x)))→comp iv ic t=comp iv' ic' t
 | 0,t,h,_,_,_=>by rw[cnt_kids] at h;omega
 | m+1,t,h,hall,h4,h5=>by
  have hc:=cnt_kids t;have hsub:=subs_kids t;have hak:=all_kids hall;cases t <;> try rfl
  rename_i ks lab
  have hk:kidsOf (Data.slice ks lab)=ks:=rfl
  rw[hk] at hc hsub hak
  have hself:Data.slice ks lab∈subs (Data.slice ks lab):=by rw[hsub];simp
  have hin:∀ k∈ks,∀ x∈subs k,x∈subs (Data.slice ks lab):=fun k hk x hx=>by
   rw[hsub]
   exact List.mem_cons_of_mem _ (mem_subsL.2 ⟨k,hk,hx⟩)
  have ih:∀ k∈ks,comp iv ic k=comp iv' ic' k:=fun k hk=>comp_congr m k (by have:=cnts_mem hk;omega) (hak k hk) (fun x hx=>h4 x (hin k hk x hx)) (fun x hx=>h5 x (hin k hk x hx));have hfs:ks.map (comp iv ic)=ks.map (comp iv' ic'):=List.map_congr_left ih;have hnode:nodeB (Data.slice ks lab)=true:=by
   rw[allB,Bool.and_eq_true] at hall
   exact hall.1
  unfold nodeB at hnode
  rw[Bool.and_eq_true,hk] at hnode
  have hkind:=hnode.2;have w4:=h4 _ hself;have w5:=h5 _ hself
  rw[comp,comp,comps_map,comps_map,hfs]
  congr 1
  generalize opOf (Data.slice ks lab)=op at *;generalize numOf (Data.slice ks lab)=n at *;generalize txtOf (Data.slice ks lab)=s at *
  funext b
  unfold opV
  rw[word_congr ks.length w4 w5]
  by_cases hset:op=26∨op=27
  ·have hj:justB [setB,eB] (ks.map opOf)=true:=by
    rcases hset with rfl|rfl <;> simpa [kindB] using hkind
   obtain⟨k0,k1,rfl,j0,-⟩:=just2 hj
   have j0':opOf k0=4∨opOf k0=5:=by simpa [setB] using j0
   have hk0:k0∈subs (Data.slice [k0,k1] lab):=hin k0 (by simp) k0 (by rw[subs_kids];simp);rcases j0' with e|e
   ·have:=h4 k0 hk0 e
    simp[e,this]
   ·have:=h5 k0 hk0 (.inl e)
    simp[e,this]
  ·simp only[if_neg hset]

end Cm
namespace Ty
open Nd

mutual
def siz:Data→Nat
 | .slice ks lab=>(txtOf (.slice ks lab)).length+sizs ks
 | _=>0
def sizs:List Data→Nat
 | []=>0
 | t::ts=>siz t+1+sizs ts
end
theorem siz_nd (op n:Int)(s:List UInt8)(ks:List Data):siz (nd op n s ks)=s.length+sizs ks:=by
 unfold nd;rw[siz];rfl
theorem sizs_mem {t:Data}:∀ {ts:List Data},t∈ts→siz t+1≤sizs ts
 | a::ts,h=>by
  simp only[sizs];rcases List.mem_cons.1 h with rfl|h
  ·omega
  ·have:=sizs_mem h;omega
theorem sizs_append:∀ (xs ys:List Data),sizs (xs++ys)=sizs xs+sizs ys
 | [],ys=>by simp[sizs]
 | a::xs,ys=>by simp only[List.cons_append,sizs,sizs_append xs ys];omega
theorem sizs_take (ks:List Data)(k:Nat)(t:Data)(h:ks[k]?=some t):sizs (ks.take (k+1))=sizs (ks.take k)+(siz t+1):=by
 rw[List.take_add_one,h,sizs_append]
 simp[sizs]
theorem siz_kids (t:Data):sizs (kidsOf t)≤siz t:=by cases t <;> simp[siz,kidsOf,sizs]
theorem cnt_siz (t:Data):cnt t≤siz t+1:=by
 induction t using tree_ind with
 | h ks lab ih =>
  have:∀ ts:List Data,(∀ t∈ts,cnt t≤siz t+1)→cnts ts≤sizs ts:=by
   intro ts
   induction ts with
   | nil=>intro _;simp[cnts,sizs]
   | cons a ts ih2 =>
    intro h;have h1:=h a (by simp);have h2:=ih2 fun t ht=>h t (by simp[ht]);simp only[cnts,sizs];omega
  have:=this ks ih
  simp only[cnt,siz];omega
 | h1 t ht =>
  cases t <;> simp[cnt];exact absurd rfl (ht _ _)
theorem cnts_siz (t:Data):cnts (kidsOf t)≤siz t:=by have:=cnt_siz t;have:=cnt_kids t;omega
theorem len_siz (t:Data):(kidsOf t).length≤siz t:=by have:=cnts_siz t;have:=cnts_len (kidsOf t);omega

def Sen (w:World):Prop:=∃ a:Addr,w.cell? ⟨4,0,none⟩=some (.iface 286 (.pointer (some a)))
theorem Sen.later {w w':World}(h:Sen w)(hb:Below w.heap.size w w'):Sen w':=by
 obtain⟨a,hc⟩:=h
 exact⟨a,(hb.cell (World.block_lt_of_cell? _ _ hc)).trans hc⟩
theorem Sen.alloc {w:World}(h:Sen w)(o:Obj):Sen (w.alloc o):=h.later ((Below.refl _ w).alloc (Nat.le_refl _) _)

def Tells (f:Nat)(p:Data→Bool)(t:Data):Prop:=∀ (w:World) (a b c u:Value),Sen w→ArgIs w t [a,b,c,u] →
 Calls Tryz.prog f #[.agg #[a,b,c,u]] w fun e w'=>e=.returned (.bool (p t))∧Below w.heap.size w w'

theorem arg_open {w:World}{t:Data}{a b c u:Value}(h:ArgIs w t [a,b,c,u]):∃ ao cap,a=.int .i64 (opOf t)∧b=.int .i64 (numOf t)∧c=.string ⟨(txtOf t).toArray⟩∧u=.slice ao (kidsOf t).length cap∧ArgsIs w (kidsOf t) ao 0∧t=nd (opOf t) (numOf t) (txtOf t) (kidsOf t):=by
 obtain⟨op,n,s,ao,cap,hnd,hc,-,-,hA⟩:=arg_form h
 rw[hnd]
 simp only[List.cons.injEq,and_true] at hc
 obtain⟨rfl,rfl,rfl,rfl⟩:=hc
 exact⟨ao,cap,rfl,rfl,rfl,rfl,hA,rfl⟩

theorem args_of_cells {w:World}{g:Nat}(hg:g<w.heap.size):∀ {ts:List Data} {S:Nat→Prop} {xs:List Value} {i:Nat},(∀ t∈ts,∀ (S:Nat→Prop) (cs:List Value),NodeIs w t S cs→ArgIs w t cs)→NodesIs w ts S xs→(∀ j x,xs[j]?=some x→w.cell? ⟨g,i*4+j,none⟩=some x)→ArgsIs w ts (some ⟨g,0,none⟩) i
 | [],S,xs,i,_,_,_=>trivial
 | t::ts,S,xs,i,hT,h,hc=>by
  simp only[NodesIs] at h
  obtain⟨S1,S2,c1,c2,rfl,h1,h2,-,-⟩:=h
  have hl:=node_len h1;have ht:=hT t (by simp) S1 c1 h1
  match c1,hl with
  | [a,b,c,u],_ =>
   have p0:=hc 0 a rfl;have p1:=hc 1 b rfl;have p2:=hc 2 c rfl;have p3:=hc 3 u rfl
   refine⟨⟨g,0,a,b,c,u,rfl,hg,?_,?_,?_,?_,ht⟩,args_of_cells hg (fun t ht=>hT t (by simp[ht])) h2 fun j x hx=>?_⟩
   ·simpa using p0
   ·simpa using p1
   ·simpa using p2
   ·simpa using p3
   ·have:=hc (j+4) x (by simpa using hx)
    rw[show (i+1)*4+j=i*4+(j+4) by omega]
    exact this

theorem arg_of_node {w:World}(t:Data):siz t≤1048576→∀ (S:Nat→Prop) (cs:List Value),NodeIs w t S cs→ArgIs w t cs:=by
 induction t using tree_ind with
 | h1 t ht =>
  intro _ S cs h
  obtain⟨op,n,s,ks,rfl⟩:=node_node h
  exact absurd rfl (ht _ _)
 | h ks lab ih =>
  intro hs S cs h;have hlen:=len_siz (.slice ks lab);have hkk:kidsOf (.slice ks lab)=ks:=rfl
  rw[hkk] at hlen
  rw[NodeIs] at h
  obtain⟨op,n,s,v,xs,hl,hc,ho,hg,hk⟩:=h
  subst hl
  rw[ArgIs]
  obtain⟨ao,cap,rfl⟩:=owns_slice ho
  have hs':s.length+sizs ks≤1048576:=by rw[← siz_nd op n s ks];exact hs
  refine⟨op,n,s,ao,cap,rfl,hc,by unfold maxLen;omega,by unfold maxLen;omega,?_⟩
  by_cases h0:0<ks.length
  ·obtain⟨g,rfl,hgl,hcell⟩:=row_cells ho h0
   refine args_of_cells hgl (fun t ht=>ih t ht (by have:=sizs_mem ht;omega)) hk fun j x hx=>?_
   rw[Nat.zero_mul,Nat.zero_add]
   exact hcell j x hx
  ·have:ks=[]:=List.length_eq_zero_iff.1 (by omega)
   subst this
   trivial

end Ty
namespace Ty
open Nd

def RulesIs (w:World)(S:Nat→Prop):List Ru→List Value→Prop
 | [],xs=>xs=[]
 | r::rs,xs=>∃ p0 p1 p2 p3 b0 b1 b2 b3 c,xs=.int .i64 r.1::p0::p1::p2::p3::b0::b1::b2::b3::c∧NodeIs w r.2.1 S [p0,p1,p2,p3]∧NodeIs w r.2.2 S [b0,b1,b2,b3]∧RulesIs w S rs c

def sizR:List Ru→Nat
 | []=>0
 | r::rs=>siz r.2.1+siz r.2.2+1+sizR rs
theorem sizR_mem {r:Ru}:∀ {rs:List Ru},r∈rs→siz r.2.1+siz r.2.2+1≤sizR rs
 | a::rs,h=>by
  simp only[sizR];rcases List.mem_cons.1 h with rfl|h
  ·omega
  ·have:=sizR_mem h;omega
theorem sizR_len:∀ rs:List Ru,rs.length≤sizR rs
 | []=>by simp
 | r::rs=>by have:=sizR_len rs;simp only[sizR,List.length_cons];omega
theorem sizR_append:∀ (xs ys:List Ru),sizR (xs++ys)=sizR xs+sizR ys
 | [],ys=>by simp[sizR]
 | a::xs,ys=>by simp only[List.cons_append,sizR,sizR_append xs ys];omega
theorem sizR_take (rs:List Ru)(k:Nat)(r:Ru)(h:rs[k]?=some r):sizR (rs.take (k+1))=sizR (rs.take k)+(siz r.2.1+siz r.2.2+1):=by
 rw[List.take_add_one,h,sizR_append]
 simp[sizR]

theorem rules_len {w:World}{S:Nat→Prop}:∀ {rs:List Ru} {xs:List Value},RulesIs w S rs xs→xs.length=rs.length*9
 | [],xs,h=>by simp only[RulesIs] at h;simp[h]
 | r::rs,xs,h=>by
  obtain⟨p0,p1,p2,p3,b0,b1,b2,b3,c,rfl,_,_,h3⟩:=h
  have:=rules_len h3
  simp;omega
theorem rules_frame {w w':World}{S:Nat→Prop}(hS:∀ k,S k→w'.heap[k]?=w.heap[k]?):∀ {rs:List Ru} {xs:List Value},RulesIs w S rs xs→RulesIs w' S rs xs
 | [],xs,h=>h
 | r::rs,xs,h=>by
  obtain⟨p0,p1,p2,p3,b0,b1,b2,b3,c,rfl,h1,h2,h3⟩:=h
  exact⟨p0,p1,p2,p3,b0,b1,b2,b3,c,rfl,node_frame _ _ _ hS h1,node_frame _ _ _ hS h2,rules_frame hS h3⟩
theorem rules_mono {w:World}{S S':Nat→Prop}(hS:∀ k,S k→S' k):∀ {rs:List Ru} {xs:List Value},RulesIs w S rs xs→RulesIs w S' rs xs
 | [],xs,h=>h
 | r::rs,xs,h=>by
  obtain⟨p0,p1,p2,p3,b0,b1,b2,b3,c,rfl,h1,h2,h3⟩:=h
  exact⟨p0,p1,p2,p3,b0,b1,b2,b3,c,rfl,node_mono h1 hS,node_mono h2 hS,rules_mono hS h3⟩
theorem rules_at {w:World}{S:Nat→Prop}:∀ {rs:List Ru} {xs:List Value} {i:Nat} {r:Ru},RulesIs w S rs xs→rs[i]?=some r→∃ p0 p1 p2 p3 b0 b1 b2 b3,xs[i*9]?=some (.int .i64 r.1)∧xs[i*9+1]?=some p0∧xs[i*9+1+1]?=some p1∧xs[i*9+1+2]?=some p2∧xs[i*9+1+3]?=some p3 ∧
  xs[i*9+5]?=some b0∧xs[i*9+5+1]?=some b1∧xs[i*9+5+2]?=some b2∧xs[i*9+5+3]?=some b3∧NodeIs w r.2.1 S [p0,p1,p2,p3]∧NodeIs w r.2.2 S [b0,b1,b2,b3]
 | [],xs,i,r,h,hi=>by simp at hi
 | r'::rs,xs,0,r,h,hi=>by
  simp at hi;subst hi
  obtain⟨p0,p1,p2,p3,b0,b1,b2,b3,c,rfl,h1,h2,h3⟩:=h
  exact⟨p0,p1,p2,p3,b0,b1,b2,b3,rfl,rfl,rfl,rfl,rfl,rfl,rfl,rfl,rfl,h1,h2⟩
 | r'::rs,xs,i+1,r,h,hi=>by
  obtain⟨q0,q1,q2,q3,d0,d1,d2,d3,c,rfl,k1,k2,k3⟩:=h
  obtain⟨p0,p1,p2,p3,b0,b1,b2,b3,e0,e1,e2,e3,e4,e5,e6,e7,e8,h1,h2⟩:=rules_at k3 (by simpa using hi:rs[i]?=some r)
  have sh:∀ j,(Value.int .i64 r'.1::q0::q1::q2::q3::d0::d1::d2::d3::c)[(i+1)*9+j]?=c[i*9+j]?:=fun j=>by
   rw[show (i+1)*9+j=(i*9+j)+9 by omega]
   rfl
  exact⟨p0,p1,p2,p3,b0,b1,b2,b3,(sh 0).trans e0,(sh 1).trans e1,(sh (1+1)).trans e2,(sh (1+2)).trans e3,(sh (1+3)).trans e4,(sh 5).trans e5,(sh (5+1)).trans e6,(sh (5+2)).trans e7,(sh (5+3)).trans e8,h1,h2⟩

def Box9 (w:World)(B:Nat)(v0 v1 v2 v3 v4 v5 v6 v7 v8:Value):Prop:=w.heap[B]?=some (.cells #[v0,v1,v2,v3,v4,v5,v6,v7,v8] 53 (0,0))
theorem Box9.lt {w:World}{B:Nat}{v0 v1 v2 v3 v4 v5 v6 v7 v8:Value}(h:Box9 w B v0 v1 v2 v3 v4 v5 v6 v7 v8):B<w.heap.size:=heap_lt h
theorem Box9.kept {w w':World}{B:Nat}{v0 v1 v2 v3 v4 v5 v6 v7 v8:Value}(h:Box9 w B v0 v1 v2 v3 v4 v5 v6 v7 v8)(hw:w'.heap[B]?=w.heap[B]?):Box9 w' B v0 v1 v2 v3 v4 v5 v6 v7 v8:=hw.trans h
theorem Box9.cell {w:World}{B:Nat}{v0 v1 v2 v3 v4 v5 v6 v7 v8:Value}(h:Box9 w B v0 v1 v2 v3 v4 v5 v6 v7 v8):w.cell? ⟨B,0,none⟩=some v0∧w.cell? ⟨B,1,none⟩=some v1∧w.cell? ⟨B,2,none⟩=some v2∧w.cell? ⟨B,3,none⟩=some v3∧w.cell? ⟨B,4,none⟩=some v4∧w.cell? ⟨B,5,none⟩=some v5∧w.cell? ⟨B,6,none⟩=some v6∧w.cell? ⟨B,7,none⟩=some v7∧w.cell? ⟨B,8,none⟩=some v8:=by
 unfold Box9 at h;simp[World.cell?,h]

end Ty
namespace Oc
open Ty (callL callB)

theorem iHasCall (s:List UInt8)(w:World):Calls Tryz.prog 158 #[.string ⟨s.toArray⟩] w fun e w'=>e=.returned (.bool (callB s))∧w'=w:=by
 by_cases h:s∈callL
 ·have H:callB s=true:=by simp[callB,h]
  rw[H]
  unfold callL at h;simp only[List.mem_cons,List.not_mem_nil,or_false] at h;rcases h with rfl|rfl|rfl|rfl|rfl|rfl
  all_goals
   go_enter Tryz.func158,Tryz.ntmps158
   go_wp2_with fail;go_ret
   exact⟨rfl,rfl⟩
 ·have H:callB s=false:=by simp[callB,h]
  rw[H]
  unfold callL at h;simp only[List.mem_cons,List.not_mem_nil,or_false,not_or] at h
  obtain⟨h1,h2,h3,h4,h5,h6⟩:=h
  replace h1:=beq_eq_false_iff_ne.2 h1;replace h2:=beq_eq_false_iff_ne.2 h2;replace h3:=beq_eq_false_iff_ne.2 h3;replace h4:=beq_eq_false_iff_ne.2 h4;replace h5:=beq_eq_false_iff_ne.2 h5;replace h6:=beq_eq_false_iff_ne.2 h6
  go_enter Tryz.func158,Tryz.ntmps158
  go_wp2_with fail;go_ret
  exact⟨rfl,rfl⟩

def strV (s:List UInt8):Value:=.string ⟨s.toArray⟩
def StrRow (w:World)(g:Nat)(L:List (List UInt8)):Prop:=∀ j s,L[j]?=some s→w.cell? ⟨g,j,none⟩=some (.string ⟨s.toArray⟩)

set_option maxRecDepth 100000 in
theorem sWithin {L:List (List UInt8)}(hL:L.length≤100)(s:List UInt8)(g cap:Nat)(w:World)(hw:StrRow w g L):
  Calls Tryz.prog 37 #[.slice (some ⟨g,0,none⟩) L.length cap,.string ⟨s.toArray⟩] w fun e w'=>e=.returned (.bool (decide (s∈L)))∧w'=w:=by
 have bn:(L.length:Int)≤100:=by omega
 clear hL
 go_enter Tryz.func37,Tryz.ntmps37
 go_wp2_with fail
 go_loopw [5] (fun i wr=>∃ k:Nat,k≤L.length∧i=.int .i64 k∧wr=w∧s∉L.take k) (fun i _=>L.length - (intOf i).toNat)
 case atStart=>exact⟨0,by omega,rfl,rfl,by simp⟩
 case round =>
  obtain⟨k,hk,rfl,rfl,hno⟩:=hrel
  by_cases hkl:k<L.length
  ·have hki:L[k]?=some L[k]:=List.getElem?_eq_getElem hkl;have hc:=hw k _ hki;have bk:(k:Int)<L.length:=by omega
   have hT:L.take (k+1)=L.take k++[L[k]]:=by rw[List.take_add_one,hki];rfl
   by_cases hs:L[k]=s
   ·have H:Hid (decide (s∈L)=true):=by show _=_;simp;rw[← hs];exact List.getElem_mem hkl
    rw[hs] at hc
    clear hki hT;go_wp2_with fail;go_ret
    exact⟨by rw[H.out];rfl,rfl⟩
   ·have H:Hid (s∉L.take (k+1)):=by show ¬ s∈_;rw[hT,List.mem_append];rintro (h|h);exact hno h;exact hs (List.mem_singleton.1 h).symm
    have e1:(L[k]==s)=false:=beq_eq_false_iff_ne.2 hs;clear hki hT hs hno;go_wp2_with fail;go_roundw
    case rel=>exact⟨k+1,by omega,by go_num,by trivial,H.out⟩
    case measure=>simp[intOf];omega
  ·obtain rfl:k=L.length:=by omega
   rw[List.take_length] at hno
   have H:Hid (decide (s∈L)=false):=decide_eq_false hno;go_wp2_with fail;go_ret
   exact⟨by rw[H.out];rfl,rfl⟩

theorem strRow_new (w:World)(L:List (List UInt8))(o:Obj)(ho:o=.cells (L.map strV).toArray 9):StrRow (w.alloc o) w.heap.size L:=fun j s h=>by
 have:=heap_alloc_new w o
 subst ho;exact (cell_of_row _ _ j _ _ _ this).trans (by simp[h,strV])

theorem sCalls (w:World):Calls Tryz.prog 118 #[] w fun e w'=>e=.returned (.slice (some ⟨w.heap.size,0,none⟩) 6 6)∧StrRow w' w.heap.size callL∧Below w.heap.size w w':=by
 obtain⟨o,ho⟩:∃ o,o=Obj.cells (callL.map strV).toArray 9:=⟨_,rfl⟩
 have h1:Hid (StrRow (w.alloc o) w.heap.size callL):=strRow_new w callL o ho;have h2:Hid (Below w.heap.size w (w.alloc o)):=(Below.refl _ w).alloc (Nat.le_refl _) _;subst ho
 go_enter Tryz.func118,Tryz.ntmps118
 go_wp2_with fail;go_ret
 exact⟨rfl,h1.out,h2.out⟩

end Oc
namespace Pg
open St (Vl RdV)
open Oc (hold heap_new Blk SmV)

structure PRd (w:World)(va ca sa ma:Option Addr)(vars cells:List ByteArray)(st mn:List Vl):Prop where
 vs:RdT w va vars
 cs:RdT w ca cells
 ss:RdV w sa st
 ms:RdV w ma mn
theorem PRd.below {W w:World}{va ca sa ma:Option Addr}{vars cells:List ByteArray}{st mn:List Vl}(h:PRd W va ca sa ma vars cells st mn)(hb:Below W.heap.size W w):PRd w va ca sa ma vars cells st mn:=⟨h.vs.below hb,h.cs.below hb,h.ss.below hb,h.ms.below hb⟩
structure PSm (vars cells:List ByteArray)(st mn:List Vl):Prop where
 vn:vars.length≤1048576
 vs:∀ s∈vars,SmT s
 cn:cells.length≤1048576
 cs:∀ s∈cells,SmT s
 sn:st.length≤1048576
 ss:∀ v∈st,SmV v
 mm:mn.length≤1048576
 ms:∀ v∈mn,SmV v

set_option maxHeartbeats 1000000 in
set_option maxRecDepth 100000 in
theorem lEqProg {va ca sa ma va' ca' sa' ma':Option Addr}{vc cc sc mc vc' cc' sc' mc':Nat}{vars cells:List ByteArray}{st mn:List Vl}{w:World}(h1:PRd w va ca sa ma vars cells st mn)(h2:PRd w va' ca' sa' ma' vars cells st mn)(hm:PSm vars cells st mn):
  Calls Tryz.prog 8 #[.agg #[.slice va vars.length vc,.slice ca cells.length cc,.slice sa st.length sc,.slice ma mn.length mc],.agg #[.slice va' vars.length vc',.slice ca' cells.length cc',.slice sa' st.length sc',.slice ma' mn.length mc']] w fun e w'=>e=.returned (.bool true)∧Below w.heap.size w w':=by
 obtain⟨W0,hW0⟩:∃ W0,W0=(w.alloc (.cells #[.slice va vars.length vc,.slice ca cells.length cc,.slice sa st.length sc,.slice ma mn.length mc] 27)).alloc (.cells #[.slice va' vars.length vc',.slice ca' cells.length cc',.slice sa' st.length sc',.slice ma' mn.length mc'] 27):=⟨_,rfl⟩
 have HK0:Hid (Below w.heap.size w W0∧Blk 27 W0 w.heap.size [.slice va vars.length vc,.slice ca cells.length cc,.slice sa st.length sc,.slice ma mn.length mc]∧Blk 27 W0 (w.heap.size+1) [.slice va' vars.length vc',.slice ca' cells.length cc',.slice sa' st.length sc',.slice ma' mn.length mc']):=by
  have k1:=Blk.new 27 (w.alloc (.cells #[.slice va vars.length vc,.slice ca cells.length cc,.slice sa st.length sc,.slice ma mn.length mc] 27)) [.slice va' vars.length vc',.slice ca' cells.length cc',.slice sa' st.length sc',.slice ma' mn.length mc']
  rw[World.size_alloc] at k1
  rw[hW0]
  exact⟨((Below.refl _ w).alloc (Nat.le_refl _) _).alloc (by simp) _,(Blk.new _ _ _).alloc _,k1⟩
 have C1:Hid (∀ w',Below w.heap.size w w'→Calls Tryz.prog 25 #[.slice va vars.length vc,.slice va' vars.length vc'] w' fun e w''=>e=.returned (.bool true)∧Below w'.heap.size w' w''):=fun w' h=>lEqStringS (h1.vs.below h) (h2.vs.below h) (by have:=hm.vn;omega);have C2:Hid (∀ w',Below w.heap.size w w'→Calls Tryz.prog 25 #[.slice ca cells.length cc,.slice ca' cells.length cc'] w' fun e w''=>e=.returned (.bool true)∧Below w'.heap.size w' w''):=fun w' h=>lEqStringS (h1.cs.below h) (h2.cs.below h) (by have:=hm.cn;omega);have C3:Hid (∀ w',Below w.heap.size w w'→Calls Tryz.prog 26 #[.slice sa st.length sc,.slice sa' st.length sc'] w' fun e w''=>e=.returned (.bool true)∧Below w'.heap.size w' w''):=fun w' h=>Oc.lEqOpS (h1.ss.below h) (h2.ss.below h) (by have:=hm.sn;omega);have C4:Hid (∀ w',Below w.heap.size w w'→Calls Tryz.prog 26 #[.slice ma mn.length mc,.slice ma' mn.length mc'] w' fun e w''=>e=.returned (.bool true)∧Below w'.heap.size w' w''):=fun w' h=>Oc.lEqOpS (h1.ms.below h) (h2.ms.below h) (by have:=hm.mm;omega);have HL:Hid (∀ W w2,(Below w.heap.size w W∧Blk 27 W w.heap.size [.slice va vars.length vc,.slice ca cells.length cc,.slice sa st.length sc,.slice ma mn.length mc]∧Blk 27 W (w.heap.size+1) [.slice va' vars.length vc',.slice ca' cells.length cc',.slice sa' st.length sc',.slice ma' mn.length mc'])→Below W.heap.size W w2→(Below w.heap.size w w2∧Blk 27 w2 w.heap.size [.slice va vars.length vc,.slice ca cells.length cc,.slice sa st.length sc,.slice ma mn.length mc]∧Blk 27 w2 (w.heap.size+1) [.slice va' vars.length vc',.slice ca' cells.length cc',.slice sa' st.length sc',.slice ma' mn.length mc'])) :=
  fun W w2 h hb=>⟨h.1.trans (hb.mono h.1.size),h.2.1.below hb,h.2.2.below hb⟩
 clear h1 h2 hm
 go_enter Tryz.func8,Tryz.ntmps8
 go_wp2_with (go_at_call 25;refine hold ?_)
 rw[← hW0]
 clear hW0;refine Calls.mono (C1.out _ HK0.out.1) ?_;rintro e w1 ⟨rfl,hb1⟩;have H1:Hid _:=HL.out _ _ HK0.out hb1;have x:=H1.out.2.1.cell 1 rfl;have y:=H1.out.2.2.cell 1 rfl;clear hb1 HK0 C1
 go_wp2_with (go_at_call 25;refine hold ?_)
 refine Calls.mono (C2.out _ H1.out.1) ?_;rintro e w2 ⟨rfl,hb2⟩;have H2:Hid _:=HL.out _ _ H1.out hb2;clear x y;have x:=H2.out.2.1.cell 2 rfl;have y:=H2.out.2.2.cell 2 rfl;clear hb2 H1 C2
 go_wp2_with (go_at_call 26;refine hold ?_)
 refine Calls.mono (C3.out _ H2.out.1) ?_;rintro e w3 ⟨rfl,hb3⟩;have H3:Hid _:=HL.out _ _ H2.out hb3;clear x y;have x:=H3.out.2.1.cell 3 rfl;have y:=H3.out.2.2.cell 3 rfl;clear hb3 H2 C3
 go_wp2_with (go_at_call 26;refine hold ?_)
 refine Calls.mono (C4.out _ H3.out.1) ?_;rintro e w4 ⟨rfl,hb4⟩;go_wp2_with fail;go_ret
 exact⟨rfl,H3.out.1.trans (hb4.mono H3.out.1.size)⟩

end Pg
end Go.Proofs.YtllbachngocmnaaGreatDoor
