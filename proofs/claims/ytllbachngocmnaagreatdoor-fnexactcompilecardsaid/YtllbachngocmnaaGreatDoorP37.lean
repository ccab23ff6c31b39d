/-
  The program's finders of what is not tidy, and of BEGIN.
-/
import Derived.Test.YtllbachngocmnaaGreatDoorP36
import Derived.Test.YtllbachngocmnaaGreatDoorP30
import Derived.Test.YtllbachngocmnaaGreatDoorP31
namespace Go.Proofs.YtllbachngocmnaaGreatDoor
open Go.RowKit
namespace Ck
open Nd Ty

def needP (rs:List Ru):Prop:=∃ t∈allOf (rs.take 1),needN t=true
def badBegin (rs:List Ru):Prop:=∃ (i:Nat) (r:Ru),rs[i]?=some r∧r.1=1∧(0<i∨needP rs)

theorem row_one {w:World}{B g n cap:Nat}{xs:List Value}(h:w.ownsRow B 53 9 (.slice (some ⟨g,0,none⟩) n cap) n xs)(hn:1≤n):w.ownsRow B 53 9 (.slice (some ⟨g,0,none⟩) 1 cap) 1 (xs.take 9):=by
 have hl:=h.1
 refine⟨by rw[List.length_take,hl];omega,.inr ?_⟩
 rcases h.2 with ⟨e,_⟩|⟨g',cap',cur,hv,hB,hg,h1,h2,h3,h4⟩
 ·simp at e
 ·simp only[Value.slice.injEq,Option.some.injEq,Addr.mk.injEq] at hv
  obtain⟨⟨rfl,_,_⟩,_,rfl⟩:=hv
  refine⟨g,cap,cur,rfl,hB,hg,by omega,h2,h3,?_⟩
  rw[← h4,List.take_take]
  congr 1
  omega

section
variable {rs : List Ru} {w : World} {S : Nat → Prop} {v : Value} {xs : List Value} {B : Nat}

set_option maxHeartbeats 1000000 in
set_option maxRecDepth 100000 in
theorem iTidyF (hS:Sen w)(hsz:sizR rs≤1048576)(hlt:∀ k,S k→k<w.heap.size)(ho:w.ownsRow B 53 9 v rs.length xs)(hR:RulesIs w S rs xs):Calls Tryz.prog 49 #[v] w (Found 1 (tidyB rs=false) w):=by
 obtain⟨ao,cap,rfl⟩:=owns_slice ho
 have bn:(rs.length:Int)≤1048576:=by have:=sizR_len rs;omega
 obtain⟨P,hP⟩:∃ P:Prop,P=(tidyB rs=false):=⟨_,rfl⟩
 rw[← hP]
 have HP:Hid (P=(tidyB rs=false)):=hP;clear hP
 go_enter Tryz.func49,Tryz.ntmps49
 go_wp2_with fail
 go_loopw [7] (fun i wr=>∃ k:Nat,k≤rs.length∧i=.int .i64 k∧tidyB rs=tidyB (rs.drop k)∧Below w.heap.size w wr) (fun i _=>rs.length - (intOf i).toNat)
 case atStart=>exact⟨0,Nat.zero_le _,rfl,rfl,Below.refl _ _⟩
 case round =>
  obtain⟨k,hkn,rfl,hall,hb⟩:=hrel
  by_cases hkl:k<rs.length
  ·have hki:rs[k]?=some rs[k]:=List.getElem?_eq_getElem hkl
   obtain⟨p0,p1,p2,p3,b0,b1,b2,b3,e0,e1,e2,e3,e4,e5,e6,e7,e8,hp,hbd⟩:=rules_at hR hki
   obtain⟨g,rfl,hg,hc⟩:=row_cells ho hkl
   have cc:∀ j x,xs[j]?=some x→wr.cell? ⟨g,j,none⟩=some x:=fun j x hx=>(hb.cell (p:=⟨g,j,none⟩) hg).trans (hc j x hx);have c0:=cc _ _ e0;have c1:=cc _ _ e1;have c2:=cc _ _ e2;have c3:=cc _ _ e3;have c4:=cc _ _ e4;have c5:=cc _ _ e5;have c6:=cc _ _ e6;have c7:=cc _ _ e7;have c8:=cc _ _ e8;have hszr:=sizR_mem (List.getElem_mem hkl);have hbo:∀ o,Below w.heap.size w (wr.alloc o):=fun o=>hb.alloc hb.size _;have call:∀ o,Calls Tryz.prog 80 #[.agg #[.int .i64 rs[k].1,p0,p1,p2,p3,b0,b1,b2,b3]] (wr.alloc o) fun e w'=>e=.returned (.bool (ruleB rs[k]))∧Below (wr.alloc o).heap.size (wr.alloc o) w':=fun o =>
    iRuleTidy (hS.later (hbo o)) (by omega) (by omega) (fun j hj=>Nat.lt_of_lt_of_le (hlt j hj) (hbo o).size) (node_frame _ _ _ (fun j hj=>(hbo o).block j (hlt j hj)) hp) (node_frame _ _ _ (fun j hj=>(hbo o).block j (hlt j hj)) hbd)
   obtain⟨pop,pn,ps,pao,pcap,pxs,-,rfl,rfl,rfl,rfl,-,-,-⟩:=node_form hp
   obtain⟨bop,bn',bs,bao,bcap,bxs,-,rfl,rfl,rfl,rfl,-,-,-⟩:=node_form hbd
   have bk:(k:Int)<rs.length:=by omega
   rw[List.drop_eq_getElem_cons hkl] at hall
   have HA:Hid (tidyB rs=(ruleB rs[k]&&tidyB (rs.drop (k+1)))):=hall.trans rfl;clear hR ho hki hall e0 e1 e2 e3 e4 e5 e6 e7 e8 hp hbd hc cc hS hlt hszr hsz;generalize ruleB rs[k]=Q at *;generalize (kidsOf rs[k].2.1).length=pL at *;generalize (kidsOf rs[k].2.2).length=bL at *;generalize rs[k].1=kd at *;cases Q
   ·go_wp2_with (go_at_call 80;refine (call _).mono ?_;rintro e w2 ⟨rfl,hb2⟩)
    go_ret;exact Found.some ((hbo _).trans (hb2.mono (hbo _).size)) k (by rw[HP.out,HA.out];rfl)
   ·go_wp2_with (go_at_call 80;refine (call _).mono ?_;rintro e w2 ⟨rfl,hb2⟩)
    go_roundw
    case rel=>exact⟨k+1,hkl,by go_num,HA.out,(hbo _).trans (hb2.mono (hbo _).size)⟩
    case measure=>simp[intOf];omega
  ·obtain rfl:k=rs.length:=by omega
   rw[List.drop_length] at hall
   have H:Hid (tidyB rs=true):=hall;clear hall;go_wp2_with fail;go_ret;exact Found.nil hb (by rw[HP.out,H.out];simp)

set_option maxHeartbeats 1000000 in
set_option maxRecDepth 100000 in
theorem iBeginF (hsz:sizR rs≤1048576)(ho:w.ownsRow B 53 9 v rs.length xs)(hr:RulesAp w rs S xs):Calls Tryz.prog 50 #[v] w (Found 2 (badBegin rs) w):=by
 obtain⟨ao,cap,rfl⟩:=owns_slice ho
 have hlen:=sizR_len rs;have bn:(rs.length:Int)≤1048576:=by omega
 obtain⟨P,hP⟩:∃ P:Prop,P=badBegin rs:=⟨_,rfl⟩
 rw[← hP]
 have HP:Hid (P=badBegin rs):=hP;clear hP;have hap:=ap_cells hr;have hR:=ap_is hap;have hltS:∀ k,(S k∧Cellsy w k)→k<w.heap.size:=fun k hk=>by obtain⟨cur,hc⟩:=hk.2;exact heap_lt hc
 go_enter Tryz.func50,Tryz.ntmps50
 go_wp2_with fail
 go_loopw [8] (fun i wr=>∃ k:Nat,k≤rs.length∧i=.int .i64 k∧(∀ (i:Nat) (r:Ru),i<k→rs[i]?=some r→¬ (r.1=1∧(0<i∨needP rs)))∧Below w.heap.size w wr) (fun i _=>rs.length - (intOf i).toNat)
 case atStart=>exact⟨0,Nat.zero_le _,rfl,fun i r h=>by omega,Below.refl _ _⟩
 case round =>
  obtain⟨k,hkn,rfl,hall,hb⟩:=hrel
  by_cases hkl:k<rs.length
  ·have hki:rs[k]?=some rs[k]:=List.getElem?_eq_getElem hkl
   obtain⟨p0,p1,p2,p3,b0,b1,b2,b3,e0,e1,e2,e3,e4,e5,e6,e7,e8,hp,hbd⟩:=rules_at hR hki
   obtain⟨g,rfl,hg,hc⟩:=row_cells ho hkl
   have cc:∀ j x,xs[j]?=some x→wr.cell? ⟨g,j,none⟩=some x:=fun j x hx=>(hb.cell (p:=⟨g,j,none⟩) hg).trans (hc j x hx);have c0:=cc _ _ e0;have c1:=cc _ _ e1;have c2:=cc _ _ e2;have c3:=cc _ _ e3;have c4:=cc _ _ e4;have c5:=cc _ _ e5;have c6:=cc _ _ e6;have c7:=cc _ _ e7;have c8:=cc _ _ e8
   obtain⟨pop,pn,ps,pao,pcap,pxs,-,rfl,rfl,rfl,rfl,-,-,-⟩:=node_form hp
   obtain⟨bop,bn',bs,bao,bcap,bxs,-,rfl,rfl,rfl,rfl,-,-,-⟩:=node_form hbd
   have bk:(k:Int)<rs.length:=by omega
   have hbo:∀ o,Below w.heap.size w (wr.alloc o):=fun o=>hb.alloc hb.size _;have hnext:¬ (rs[k].1=1∧(0<k∨needP rs))→∀ (i:Nat) (r:Ru),i<k+1→rs[i]?=some r→¬ (r.1=1∧(0<i∨needP rs)):=fun hno i r hi hr=>by
    by_cases hik:i=k
    ·subst hik;rw[hki] at hr;cases hr;exact hno
    ·exact hall i r (by omega) hr
   have hbad:rs[k].1=1∧(0<k∨needP rs)→P:=fun h=>by rw[HP.out];exact⟨k,_,hki,h⟩
   have hcap:rs.length≤cap:=by
    rcases ho.2 with ⟨e,_⟩|⟨g',cap',cur,e,_,_,hc,_⟩
    ·simp at e
    ·simp only[Value.slice.injEq] at e;omega
   have hcI:(rs.length:Int)≤cap:=by omega
   have call:k=0→∀ w',Below w.heap.size w w'→Calls Tryz.prog 81 #[.slice (some ⟨g,0,none⟩) 1 cap,.int .i64 2,.func (.func 82) #[] #[]] w' fun e w''=>Found 2 (needP rs) w' e w'':=by
    rintro - w' hb';have hr1:(rs.take 1).length=1:=by rw[List.length_take];omega
    have ho1:=row_one (owns_same (w':=w') ho fun b hb=>hb'.block b (ho.lt b hb).2) (by omega);have hapw:=ap_frame (w':=w') (fun k hk=>hb'.block k (hltS k hk)) hap;have hap1:RulesAp w' (rs.take 1) (fun k=>S k∧Cellsy w k) (xs.take 9):=by
     cases rs with
     | nil=>simp at hkl
     | cons r rest =>
      obtain⟨q0,q1,q2,q3,d0,d1,d2,d3,c,Sp,Sb,Sr,rfl,h1,h2,h3,k1,k2,k3⟩:=hapw
      exact⟨q0,q1,q2,q3,d0,d1,d2,d3,[],Sp,Sb,fun _=>False,rfl,h1,h2,rfl,fun k hk=>⟨(k1 k hk).1,(k1 k hk).2.1,id⟩,fun k hk=>⟨(k2 k hk).1,id⟩,fun k hk=>hk.elim⟩
    have hsz1:sizR (rs.take 1)≤1048576:=by have:=sizR_append (rs.take 1) (rs.drop 1);rw[List.take_append_drop] at this;omega
    have:=iAmissWhere (rs:=rs.take 1) (code:=2) (ao:=some ⟨g,0,none⟩) (cap:=cap) (w:=w') hsz1 (by rw[hr1];exact ho1) hap1 (fun k hk=>hk.elim) (asksNeeds w' (rs.take 1)) (enters_of Tryz.func82 (by kernel_rfl) rfl) trivial
    rw[hr1] at this
    refine this.mono ?_;rintro e w'' ⟨hF,hres⟩;exact found_of (any_last needN (allOf (rs.take 1))) (fr_none hF) hres
   have HN:Hid (¬ (rs[k].1=1∧(0<k∨needP rs))→∀ (i:Nat) (r:Ru),i<k+1→rs[i]?=some r→¬ (r.1=1∧(0<i∨needP rs))):=hnext;have HB:Hid (rs[k].1=1∧(0<k∨needP rs)→P):=hbad;clear hR ho hki hall e0 e1 e2 e3 e4 e5 e6 e7 e8 hp hbd hc cc hr hap hnext hbad hcap hltS;generalize (kidsOf rs[k].2.1).length=pL at *;generalize (kidsOf rs[k].2.2).length=bL at *;generalize rs[k].1=kd at *
   by_cases h1:kd=1
   ·subst h1
    by_cases hk0:k=0
    ·have call':=call hk0;subst hk0;clear call;have HN2:Hid (¬ needP rs→∀ (i:Nat) (r:Ru),i<0+1→rs[i]?=some r→¬ (r.1=1∧(0<i∨needP rs))):=fun hno=>HN.out fun h=>h.2.elim (fun h=>by omega) hno;have HB2:Hid (needP rs→P):=fun h=>HB.out ⟨rfl,.inr h⟩;clear HN HB;generalize needP rs=NP at *
     go_wp2_with (go_at_call 81;refine hold ?_)
     refine (call' _ (hbo _)).mono ?_;rintro e w2 ⟨⟨hn,hn'⟩|⟨⟨r,rfl⟩,hp⟩,hB⟩
     ·subst hn;have hB2:=(hbo _).trans (hB.mono (hbo _).size);clear call' hB;go_wp2_with fail;go_roundw
      case rel=>exact⟨0+1,hkl,by go_num,HN2.out hn',hB2⟩
      case measure=>simp[intOf];omega
     ·have hB2:=(hbo _).trans (hB.mono (hbo _).size);clear call' hB;go_wp2_with fail;go_ret;exact Found.some hB2 r (HB2.out hp)
    ·have hki2:(0:Int)<k:=by omega
     have HB2:Hid P:=HB.out ⟨rfl,.inl (by omega)⟩;clear call HN HB hk0;go_wp2_with fail;go_ret;exact Found.some (hbo _) k HB2.out
   ·have e1:(kd==1)=false:=by simpa using h1
    have HN2:Hid (∀ (i:Nat) (r:Ru),i<k+1→rs[i]?=some r→¬ (r.1=1∧(0<i∨needP rs))):=HN.out fun h=>h1 h.1;clear call HN HB h1;go_wp2_with fail;go_roundw
    case rel=>exact⟨k+1,hkl,by go_num,HN2.out,hbo _⟩
    case measure=>simp[intOf];omega
  ·obtain rfl:k=rs.length:=by omega
   have H:Hid (¬ P):=by
    show ¬ P
    rw[HP.out]
    rintro⟨i,r,h1,h2⟩
    exact hall i r ((List.getElem?_eq_some_iff.1 h1).1) h1 h2
   clear hall;go_wp2_with fail;go_ret;exact Found.nil hb H.out
end

end Ck
end Go.Proofs.YtllbachngocmnaaGreatDoor
namespace Go.Proofs.YtllbachngocmnaaGreatDoor
namespace Ck
open Nd Ty

theorem all_sub {t:Data}(h:allB t=true):∀ x∈subs t,nodeB x=true:=by
 induction t using tree_ind with
 | h ks lab ih =>
  rw[allB,Bool.and_eq_true,alls_all,List.all_eq_true] at h
  intro x hx
  rw[subs,List.mem_cons] at hx
  rcases hx with rfl|hx
  ·exact h.1
  ·obtain⟨t,ht,hx⟩:=mem_subsL.1 hx
   exact ih t ht (h.2 t ht) x hx
 | h1 t ht =>
  cases t <;> simp[allB] at h;exact absurd rfl (ht _ _)
def Fine (t:Data):Prop:=nodeB t=true∨(opOf t=0∧kidsOf t=[])
theorem tidy_sub {rs:List Ru}(h:tidyB rs=true){t:Data}(ht:SubR rs t):Fine t:=by
 obtain⟨r,hr,hs⟩:=ht
 have h1:=List.all_eq_true.1 h r hr;simp only[ruleB,Bool.and_eq_true] at h1
 obtain⟨⟨-,h2⟩,h3⟩:=h1
 rcases hs with hs|hs
 ·split at h3
  ·simp only[zeroB,Bool.and_eq_true,decide_eq_true_eq] at h3
   rw[subs_kids,h3.2] at hs
   simp only[subsL,List.mem_singleton] at hs;subst hs;exact .inr ⟨h3.1.1.1,h3.2⟩
  ·split at h3
   ·simp only[Bool.and_eq_true,treeB] at h3;exact .inl (all_sub h3.2.2 t hs)
   ·cases h3
 ·simp only[treeB,Bool.and_eq_true] at h2;exact .inl (all_sub h2.2 t hs)
theorem just_len:∀ {ps:List (Int→Bool)} {xs:List Int},justB ps xs=true→xs.length=ps.length
 | [],[],_=>rfl
 | [],_::_,h=>by simp[justB] at h
 | _::_,[],h=>by simp[justB] at h
 | p::ps,x::xs,h=>by
  simp only[justB,Bool.and_eq_true] at h;simp[just_len h.2]
theorem fine_fits {t:Data}(h:Fine t)(ho:opOf t=21):(kidsOf t).length=2:=by
 rcases h with h|h
 ·simp only[nodeB,Bool.and_eq_true] at h
  have:=h.2
  rw[ho] at this
  have:=just_len (ps:=[eB,eB]) (xs:=(kidsOf t).map opOf) (by simpa [kindB] using this)
  simpa using this
 ·omega
theorem fine_rex {t:Data}(h:Fine t)(ho:opOf t=3):kidsOf t=[]:=by
 rcases h with h|h
 ·simp only[nodeB,Bool.and_eq_true] at h
  have:=h.2
  rw[ho] at this
  have:=just_len (ps:=[]) (xs:=(kidsOf t).map opOf) (by simpa [kindB] using this)
  simpa using this
 ·exact h.2
theorem sub_self (t:Data):t∈subs t:=by rw[subs_kids];simp
theorem sub_kid {t k x:Data}(hk:k∈kidsOf t)(hx:x∈subs k):x∈subs t:=by rw[subs_kids];exact List.mem_cons_of_mem _ (mem_subsL.2 ⟨k,hk,hx⟩)

mutual
def lineT:Data→Bool
 | .slice ks lab=>decide (opOf (.slice ks lab)=6∨opOf (.slice ks lab)=7∨opOf (.slice ks lab)=8∨opOf (.slice ks lab)=33∨opOf (.slice ks lab)=3) || lineK (opOf (.slice ks lab)) 0 ks
 | _=>false
def lineK:Int→Nat→List Data→Bool
 | _,_,[]=>false
 | op,i,t::ts=>(!(decide (op=21)&&decide (i=1)&&decide (opOf t=3))&&lineT t) || lineK op (i+1) ts
end
mutual
def argsT:Data→Bool
 | .slice ks lab=>!argsB (.slice ks lab)&&argsTs ks
 | _=>true
def argsTs:List Data→Bool
 | []=>true
 | t::ts=>argsT t&&argsTs ts
end
mutual
def rexT:Data→Bool
 | .slice ks lab=>if opOf (.slice ks lab)=3 then okRex (txtOf (.slice ks lab)) else !rexN (.slice ks lab)&&rexTs ks
 | _=>true
def rexTs:List Data→Bool
 | []=>true
 | t::ts=>rexT t&&rexTs ts
end

theorem argsTs_all:∀ ts:List Data,argsTs ts=ts.all argsT
 | []=>rfl
 | t::ts=>by simp[argsTs,argsTs_all ts]
theorem rexTs_all:∀ ts:List Data,rexTs ts=ts.all rexT
 | []=>rfl
 | t::ts=>by simp[rexTs,rexTs_all ts]
def Node (t:Data):Prop:=∃ op n s ks,t=nd op n s ks

theorem args_iff {t:Data}(hN:∀ x∈subs t,Node x):argsT t=true↔∀ x∈subs t,argsB x=false:=by
 induction t using tree_ind with
 | h ks lab ih =>
  rw[argsT,Bool.and_eq_true,argsTs_all,List.all_eq_true,subs]
  simp only[List.mem_cons,forall_eq_or_imp,Bool.not_eq_true'];refine and_congr Iff.rfl ⟨fun h x hx=>?_,fun h k hk=>?_⟩
  ·obtain⟨k,hk,hx⟩:=mem_subsL.1 hx
   exact (ih k hk (fun x hx=>hN x (sub_kid (t:=.slice ks lab) hk hx))).1 (h k hk) x hx
  ·exact (ih k hk (fun x hx=>hN x (sub_kid (t:=.slice ks lab) hk hx))).2 fun x hx=>h x (mem_subsL.2 ⟨k,hk,hx⟩)
 | h1 t ht =>
  obtain⟨op,n,s,ks,rfl⟩:=hN _ (sub_self t)
  exact absurd rfl (ht _ _)
theorem rex_iff {t:Data}(hN:∀ x∈subs t,Node x∧Fine x):rexT t=true↔∀ x∈subs t,rexN x=false:=by
 induction t using tree_ind with
 | h ks lab ih =>
  by_cases h3:opOf (.slice ks lab)=3
  ·have hk:ks=[]:=fine_rex (hN _ (sub_self _)).2 h3;subst hk
   rw[rexT,if_pos h3]
   simp[subs,subsL,rexN,h3]
  ·rw[rexT,if_neg h3,Bool.and_eq_true,rexTs_all,List.all_eq_true,subs]
   simp only[List.mem_cons,forall_eq_or_imp,Bool.not_eq_true'];refine and_congr Iff.rfl ⟨fun h x hx=>?_,fun h k hk=>?_⟩
   ·obtain⟨k,hk,hx⟩:=mem_subsL.1 hx
    exact (ih k hk (fun x hx=>hN x (sub_kid (t:=.slice ks lab) hk hx))).1 (h k hk) x hx
   ·exact (ih k hk (fun x hx=>hN x (sub_kid (t:=.slice ks lab) hk hx))).2 fun x hx=>h x (mem_subsL.2 ⟨k,hk,hx⟩)
 | h1 t ht =>
  obtain⟨⟨op,n,s,ks,rfl⟩,-⟩:=hN _ (sub_self t)
  exact absurd rfl (ht _ _)

theorem lineK_iff (op:Int):∀ (ks:List Data) (i:Nat),lineK op i ks=true↔∃ j k,ks[j]?=some k∧¬ (op=21∧i+j=1∧opOf k=3)∧lineT k=true
 | [],i=>by simp[lineK]
 | t::ts,i=>by
  rw[lineK,Bool.or_eq_true,lineK_iff op ts (i+1)]
  simp only[Bool.and_eq_true,Bool.not_eq_true',Bool.and_eq_false_iff,decide_eq_false_iff_not]
  constructor
  ·rintro (⟨h1,h2⟩|⟨j,k,h1,h2,h3⟩)
   ·exact⟨0,t,rfl,fun h=>by rcases h1 with (h1|h1)|h1 <;> simp_all,h2⟩
   ·exact⟨j+1,k,by simpa using h1,fun h=>h2 ⟨h.1,by omega,h.2.2⟩,h3⟩
  ·rintro⟨j,k,h1,h2,h3⟩
   cases j with
   | zero =>
    simp at h1;subst h1;refine .inl ⟨?_,h3⟩
    by_cases a:op=21
    ·by_cases b:i=1
     ·exact .inr fun h=>h2 ⟨a,by omega,h⟩
     ·exact .inl (.inr b)
    ·exact .inl (.inl a)
   | succ j=>exact .inr ⟨j,k,by simpa using h1,fun h=>h2 ⟨h.1,by omega,h.2.2⟩,h3⟩
theorem needK_iff (op:Int):∀ (ks:List Data) (i:Nat),needK op i ks=true↔∃ j k,ks[j]?=some k∧¬ (op=21∧i+j=1)∧opOf k=3
 | [],i=>by simp[needK]
 | t::ts,i=>by
  rw[needK,Bool.or_eq_true,needK_iff op ts (i+1)]
  simp only[Bool.and_eq_true,Bool.not_eq_true',Bool.and_eq_false_iff,decide_eq_false_iff_not,decide_eq_true_eq]
  constructor
  ·rintro (⟨h1,h2⟩|⟨j,k,h1,h2,h3⟩)
   ·exact⟨0,t,rfl,fun h=>by rcases h2 with h2|h2 <;> omega,h1⟩
   ·exact⟨j+1,k,by simpa using h1,fun h=>h2 ⟨h.1,by omega⟩,h3⟩
  ·rintro⟨j,k,h1,h2,h3⟩
   cases j with
   | zero =>
    simp at h1;subst h1;refine .inl ⟨h3,?_⟩
    by_cases a:op=21
    ·exact .inr fun b=>h2 ⟨a,by omega⟩
    ·exact .inl a
   | succ j=>exact .inr ⟨j,k,by simpa using h1,fun h=>h2 ⟨h.1,by omega⟩,h3⟩

theorem line_iff {t:Data}(hN:∀ x∈subs t,Node x∧Fine x)(h3:opOf t≠3):lineT t=true↔∃ x∈subs t,needN x=true:=by
 induction t using tree_ind with
 | h ks lab ih =>
  have hk:kidsOf (.slice ks lab)=ks:=rfl
  rw[lineT,Bool.or_eq_true,decide_eq_true_eq,lineK_iff]
  have hneed:needN (.slice ks lab)=true↔(opOf (.slice ks lab)=6∨opOf (.slice ks lab)=7∨opOf (.slice ks lab)=8∨opOf (.slice ks lab)=33)∨∃ j k,ks[j]?=some k∧¬ (opOf (.slice ks lab)=21∧0+j=1)∧opOf k=3:=by
   rw[needN,Bool.or_eq_true,decide_eq_true_eq,hk,needK_iff]
  constructor
  ·rintro (h|⟨j,k,h1,h2,hl⟩)
   ·exact⟨_,sub_self _,hneed.2 (.inl (by omega))⟩
   ·have hkm:k∈ks:=List.mem_of_getElem? h1
    by_cases hk3:opOf k=3
    ·exact⟨_,sub_self _,hneed.2 (.inr ⟨j,k,h1,fun h=>h2 ⟨h.1,h.2,hk3⟩,hk3⟩)⟩
    ·obtain⟨x,hx,hn⟩:=(ih k hkm (fun x hx=>hN x (sub_kid (t:=.slice ks lab) hkm hx)) hk3).1 hl
     exact⟨x,sub_kid (t:=.slice ks lab) hkm hx,hn⟩
  ·rintro⟨x,hx,hn⟩
   rw[subs,List.mem_cons] at hx
   rcases hx with rfl|hx
   ·rcases hneed.1 hn with h|⟨j,k,h1,h2,hk3⟩
    ·exact .inl (by omega)
    ·refine .inr ⟨j,k,h1,fun h=>h2 ⟨h.1,h.2.1⟩,?_⟩;have hkm:k∈ks:=List.mem_of_getElem? h1
     obtain⟨op,n,s,kk,rfl⟩:=(hN k (sub_kid (t:=.slice ks lab) hkm (sub_self k))).1
     unfold nd
     rw[lineT,Bool.or_eq_true,decide_eq_true_eq]
     exact .inl (.inr (.inr (.inr (.inr hk3))))
   ·obtain⟨k,hkm,hx⟩:=mem_subsL.1 hx
    obtain⟨j,hj⟩:=List.getElem?_of_mem hkm
    by_cases hk3:opOf k=3
    ·have hkk:=fine_rex (hN k (sub_kid (t:=.slice ks lab) hkm (sub_self k))).2 hk3
     rw[subs_kids,hkk] at hx
     simp only[subsL,List.mem_singleton] at hx;subst hx;simp[needN,hk3,hkk,needK] at hn
    ·exact .inr ⟨j,k,hj,fun h=>hk3 h.2.2,(ih k hkm (fun x hx=>hN x (sub_kid (t:=.slice ks lab) hkm hx)) hk3).2 ⟨x,hx,hn⟩⟩
 | h1 t ht =>
  obtain⟨⟨op,n,s,ks,rfl⟩,-⟩:=hN _ (sub_self t)
  exact absurd rfl (ht _ _)

end Ck
end Go.Proofs.YtllbachngocmnaaGreatDoor
namespace Go.Proofs.YtllbachngocmnaaGreatDoor
open Go.RowKit
namespace Ck
open Nd Ty

def Bad (rs:List Ru):Nat→Prop
 | 0=>tidyB rs=false
 | 1=>badBegin rs
 | 2=>tooMany (allOf rs)=true
 | 3=>bothAll (allOf rs)
 | 4=>∃ t∈allOf rs,argsB t=true
 | 5=>∃ t∈allOf rs,rexN t=true
 | _=>False
def CheckIs (rs:List Ru)(c:Int):Prop:=(c=0∧∀ j,¬ Bad rs j)∨∃ j:Nat,c=j+1∧Bad rs j∧∀ i,i<j→¬ Bad rs i
theorem check_one {rs:List Ru}{c d:Int}(h:CheckIs rs c)(h':CheckIs rs d):c=d:=by
 rcases h with ⟨rfl,h⟩|⟨j,rfl,h1,h2⟩
 ·rcases h' with ⟨rfl,_⟩|⟨k,rfl,k1,_⟩
  ·rfl
  ·exact absurd k1 (h k)
 ·rcases h' with ⟨rfl,h'⟩|⟨k,rfl,k1,k2⟩
  ·exact absurd h1 (h' j)
  ·have:j=k:=by
    rcases Nat.lt_trichotomy j k with h|h|h
    ·exact absurd h1 (k2 j h)
    ·exact h
    ·exact absurd k1 (h2 k h)
   rw[this]

def Ety (w:World):Prop:=w.cell? ⟨0,0,none⟩=some (.iface 175 (.agg #[.pointer (some ⟨6,85,none⟩)]))
theorem Ety.later {w w':World}(h:Ety w)(hb:Below w.heap.size w w'):Ety w':=(hb.cell (World.block_lt_of_cell? _ _ h)).trans h

def finders:Array Value:=#[.func (.func 49) #[] #[],.func (.func 50) #[] #[],.func (.func 51) #[] #[],.func (.func 52) #[] #[],.func (.func 53) #[] #[],.func (.func 54) #[] #[]]

theorem tidy_two {rs:List Ru}(h:¬ Bad rs 0):∀ t,SubR rs t→opOf t=21→2≤(kidsOf t).length:=fun t ht h21=>by
 have h1:tidyB rs=true:=by simpa [Bad] using h
 have:=fine_fits (tidy_sub h1 ht) h21
 omega

set_option maxHeartbeats 4000000 in
set_option maxRecDepth 100000 in
theorem iCheck {rs:List Ru}{w:World}{S:Nat→Prop}{v:Value}{xs:List Value}{B:Nat}(hS:Sen w)(hP:SenP w)(hE:Ety w)(hsz:sizR rs≤1048576)(hlt:∀ k,S k→k<w.heap.size)(ho:w.ownsRow B 53 9 v rs.length xs)(hr:RulesAp w rs S xs):
  Calls Tryz.prog 21 #[v] w fun e w'=>∃ c:Int,e=.returned (.int .i64 c)∧CheckIs rs c∧Below w.heap.size w w':=by
 have fo:∀ w',Below w.heap.size w w'→w'.ownsRow B 53 9 v rs.length xs∧RulesAp w' rs S xs∧∀ k,S k→k<w'.heap.size:=fun w' hb=>⟨owns_same ho fun g hg=>hb.block g (ho.lt g hg).2,ap_frame (fun k hk=>hb.block k (hlt k hk)) hr,fun k hk=>Nat.lt_of_lt_of_le (hlt k hk) hb.size⟩;have f0:=fun w' (hb:Below w.heap.size w w')=>iTidyF (hS.later hb) hsz (fo w' hb).2.2 (fo w' hb).1 (ap_is (fo w' hb).2.1);have f1:=fun w' (hb:Below w.heap.size w w')=>iBeginF hsz (fo w' hb).1 (fo w' hb).2.1;have f2:=fun w' (hb:Below w.heap.size w w')=>iNamesF hsz (fo w' hb).1 (fo w' hb).2.1;have f3:=fun w' (hb:Below w.heap.size w w')=>iKindF hsz (fo w' hb).1 (fo w' hb).2.1;have f4:=fun w' (hb:Below w.heap.size w w')=>iArgsF hsz (fo w' hb).1 (fo w' hb).2.1;have f5:=fun w' (hb:Below w.heap.size w w') (hn:¬ Bad rs 0)=>iRexF hsz (fo w' hb).1 (fo w' hb).2.1 (hP.later hb) (tidy_two hn);have g0:∀ w',Below w.heap.size w w'→Calls Tryz.prog 49 #[v] w' (Found 1 (Bad rs 0) w'):=f0;have g1:∀ w',Below w.heap.size w w'→Calls Tryz.prog 50 #[v] w' (Found 2 (Bad rs 1) w'):=f1;have g2:∀ w',Below w.heap.size w w'→Calls Tryz.prog 51 #[v] w' (Found 3 (Bad rs 2) w'):=f2;have g3:∀ w',Below w.heap.size w w'→Calls Tryz.prog 52 #[v] w' (Found 4 (Bad rs 3) w'):=f3;have g4:∀ w',Below w.heap.size w w'→Calls Tryz.prog 53 #[v] w' (Found 5 (Bad rs 4) w'):=f4;have g5:∀ w',Below w.heap.size w w'→¬ Bad rs 0→Calls Tryz.prog 54 #[v] w' (Found 6 (Bad rs 5) w'):=f5;have hend:(∀ j,j<6→¬ Bad rs j)→CheckIs rs 0:=fun h=>.inl ⟨rfl,fun j=>by
  by_cases hj:j<6
  ·exact h j hj
  ·match j,hj with
   | j+6,_=>exact id⟩
 have hone:∀ k:Nat,(∀ j,j<k→¬ Bad rs j)→Bad rs k→CheckIs rs ((k:Int)+1):=fun k h hb=>.inr ⟨k,rfl,hb,h⟩
 obtain⟨ao,cap,rfl⟩:=owns_slice ho
 clear f0 f1 f2 f3 f4 f5 fo ho hr hlt hsz hS hP
 obtain⟨Q,hQ⟩:∃ Q,Q=Bad rs:=⟨_,rfl⟩
 obtain⟨C,hC⟩:∃ C,C=CheckIs rs:=⟨_,rfl⟩
 rw[← hQ] at g0 g1 g2 g3 g4 g5 hend hone
 rw[← hC] at hend hone ⊢
 clear hQ hC;have hbo:∀ o,Below w.heap.size w (w.alloc o):=fun o=>(Below.refl _ w).alloc (Nat.le_refl _) _
 obtain⟨o1,ho1⟩:∃ o1,o1=Obj.cells finders 79:=⟨_,rfl⟩
 have hn1:=heap_new w o1;have hb1:=hbo o1;have HH:Hid (o1=Obj.cells finders 79):=ho1;subst ho1;unfold finders at hn1 hb1
 go_enter Tryz.func21,Tryz.ntmps21
 go_wp2_with fail;clear hbo HH
 go_loopw [10] (fun i wr=>∃ k:Nat,k≤6∧i=.int .i64 k∧(∀ j,j<k→¬ Q j)∧Below w.heap.size w wr∧wr.heap[w.heap.size]?=some (Obj.cells #[.func (.func 49) #[] #[],.func (.func 50) #[] #[],.func (.func 51) #[] #[],.func (.func 52) #[] #[],.func (.func 53) #[] #[],.func (.func 54) #[] #[]] 79 (0,0))) (fun i _=>6 - (intOf i).toNat)
 case atStart=>exact⟨0,by omega,rfl,fun j hj=>by omega,hb1,hn1⟩
 case round =>
  clear hb1 hn1
  obtain⟨k,hk,rfl,hno,hb,hrow⟩:=hrel
  have hal:∀ o,Below w.heap.size w (wr.alloc o):=fun o=>hb.alloc hb.size _;have hrl:=heap_lt hrow;have hnew:(wr.alloc (.cells #[.int .i64 0,.int .i64 0] 82)).heap[wr.heap.size]?=some (.cells #[.int .i64 0,.int .i64 0] 82 (0,0)):=heap_new _ _;have hstep:∀ w2,Below (wr.alloc (.cells #[.int .i64 0,.int .i64 0] 82)).heap.size (wr.alloc (.cells #[.int .i64 0,.int .i64 0] 82)) w2→Below w.heap.size w w2∧w2.heap[w.heap.size]?=some (Obj.cells #[.func (.func 49) #[] #[],.func (.func 50) #[] #[],.func (.func 51) #[] #[],.func (.func 52) #[] #[],.func (.func 53) #[] #[],.func (.func 54) #[] #[]] 79 (0,0))∧w2.heap[wr.heap.size]?=some (.cells #[.int .i64 0,.int .i64 0] 82 (0,0))∧wr.heap.size<w2.heap.size:=fun w2 h=>by
   have hs:=h.size;simp only[World.size_alloc] at hs
   exact⟨(hal _).trans (h.mono (hal _).size),(h.block _ (by simp;omega)).trans ((Below.heap_alloc _ _ _ hrl).trans hrow),(h.block _ (by simp)).trans hnew,by omega⟩
  have hwr:=hb.size;have hlast:∀ w2 w3:World,Below w.heap.size w w2→w3.os=w2.os→w3.tape=w2.tape→w3.output=w2.output→w2.heap.size≤w3.heap.size→(∀ k,k<w2.heap.size→k≠wr.heap.size→w3.heap[k]?=w2.heap[k]?)→Below w.heap.size w w3:=fun w2 w3 h e1 e2 e3 e4 e5 =>
   ⟨e1.trans h.os,e2.trans h.tape,e3.trans h.output,Nat.le_trans h.size e4,fun k hk=>(e5 k (Nat.lt_of_lt_of_le hk h.size) (by omega)).trans (h.block k hk)⟩
  rcases (by omega:k=0∨k=1∨k=2∨k=3∨k=4∨k=5∨k=6) with rfl|rfl|rfl|rfl|rfl|rfl|rfl
  ·have c0:wr.cell? ⟨w.heap.size,0,none⟩=some (.func (.func 49) #[] #[]):=by simp[World.cell?,hrow]
   have H1:Hid (¬ Q 0→∀ j,j<0+1→¬ Q j):=fun h j hj=>by
    by_cases e:j=0
    ·subst e;exact h
    ·exact hno j (by omega)
   have H2:Hid (Q 0→C (1:Int)):=fun h=>by have:=hone 0 hno h;simpa using this
   go_wp2_with (go_at_call 49;refine hold ?_)
   refine (g0 _ (hal _)).mono ?_;rintro e w2 ⟨⟨hn,hn'⟩|⟨⟨r,rfl⟩,hp⟩,hB⟩
   ·subst hn
    obtain⟨hB2,hrow2,-,-⟩:=hstep w2 hB
    clear hB hstep hlast hnew hone hend g0 g1 g2 g3 g4 g5
    go_wp2_with (go_at_call 55;refine (as_nil _ _).mono ?_;rintro e w3 ⟨rfl,rfl⟩)
    go_roundw
    case rel=>exact⟨0+1,by omega,by go_num,H1.out hn',hB2,hrow2⟩
    case measure=>simp[intOf]
   ·obtain⟨hB2,-,hbx,hbl⟩:=hstep w2 hB
    have hhit:=as_hit 1 r wr.heap.size _ _ w2 (hE.later hB2) hbx;have hl2:=hlast w2;clear hB hstep hlast hnew hone hend g0 g1 g2 g3 g4 g5
    go_wp2_with (go_at_call 55;refine hhit.mono ?_;rintro e w3 ⟨rfl,hc0,e1,e2,e3,e4,e5⟩)
    go_ret
    exact⟨1,rfl,H2.out hp,hl2 w3 hB2 e1 e2 e3 e4 e5⟩
  ·have c0:wr.cell? ⟨w.heap.size,1,none⟩=some (.func (.func 50) #[] #[]):=by simp[World.cell?,hrow]
   have H1:Hid (¬ Q 1→∀ j,j<1+1→¬ Q j):=fun h j hj=>by
    by_cases e:j=1
    ·subst e;exact h
    ·exact hno j (by omega)
   have H2:Hid (Q 1→C (2:Int)):=fun h=>by have:=hone 1 hno h;simpa using this
   go_wp2_with (go_at_call 50;refine hold ?_)
   refine (g1 _ (hal _)).mono ?_;rintro e w2 ⟨⟨hn,hn'⟩|⟨⟨r,rfl⟩,hp⟩,hB⟩
   ·subst hn
    obtain⟨hB2,hrow2,-,-⟩:=hstep w2 hB
    clear hB hstep hlast hnew hone hend g0 g1 g2 g3 g4 g5
    go_wp2_with (go_at_call 55;refine (as_nil _ _).mono ?_;rintro e w3 ⟨rfl,rfl⟩)
    go_roundw
    case rel=>exact⟨1+1,by omega,by go_num,H1.out hn',hB2,hrow2⟩
    case measure=>simp[intOf]
   ·obtain⟨hB2,-,hbx,hbl⟩:=hstep w2 hB
    have hhit:=as_hit 2 r wr.heap.size _ _ w2 (hE.later hB2) hbx;have hl2:=hlast w2;clear hB hstep hlast hnew hone hend g0 g1 g2 g3 g4 g5
    go_wp2_with (go_at_call 55;refine hhit.mono ?_;rintro e w3 ⟨rfl,hc0,e1,e2,e3,e4,e5⟩)
    go_ret
    exact⟨2,rfl,H2.out hp,hl2 w3 hB2 e1 e2 e3 e4 e5⟩
  ·have c0:wr.cell? ⟨w.heap.size,2,none⟩=some (.func (.func 51) #[] #[]):=by simp[World.cell?,hrow]
   have H1:Hid (¬ Q 2→∀ j,j<2+1→¬ Q j):=fun h j hj=>by
    by_cases e:j=2
    ·subst e;exact h
    ·exact hno j (by omega)
   have H2:Hid (Q 2→C (3:Int)):=fun h=>by have:=hone 2 hno h;simpa using this
   go_wp2_with (go_at_call 51;refine hold ?_)
   refine (g2 _ (hal _)).mono ?_;rintro e w2 ⟨⟨hn,hn'⟩|⟨⟨r,rfl⟩,hp⟩,hB⟩
   ·subst hn
    obtain⟨hB2,hrow2,-,-⟩:=hstep w2 hB
    clear hB hstep hlast hnew hone hend g0 g1 g2 g3 g4 g5
    go_wp2_with (go_at_call 55;refine (as_nil _ _).mono ?_;rintro e w3 ⟨rfl,rfl⟩)
    go_roundw
    case rel=>exact⟨2+1,by omega,by go_num,H1.out hn',hB2,hrow2⟩
    case measure=>simp[intOf]
   ·obtain⟨hB2,-,hbx,hbl⟩:=hstep w2 hB
    have hhit:=as_hit 3 r wr.heap.size _ _ w2 (hE.later hB2) hbx;have hl2:=hlast w2;clear hB hstep hlast hnew hone hend g0 g1 g2 g3 g4 g5
    go_wp2_with (go_at_call 55;refine hhit.mono ?_;rintro e w3 ⟨rfl,hc0,e1,e2,e3,e4,e5⟩)
    go_ret
    exact⟨3,rfl,H2.out hp,hl2 w3 hB2 e1 e2 e3 e4 e5⟩
  ·have c0:wr.cell? ⟨w.heap.size,3,none⟩=some (.func (.func 52) #[] #[]):=by simp[World.cell?,hrow]
   have H1:Hid (¬ Q 3→∀ j,j<3+1→¬ Q j):=fun h j hj=>by
    by_cases e:j=3
    ·subst e;exact h
    ·exact hno j (by omega)
   have H2:Hid (Q 3→C (4:Int)):=fun h=>by have:=hone 3 hno h;simpa using this
   go_wp2_with (go_at_call 52;refine hold ?_)
   refine (g3 _ (hal _)).mono ?_;rintro e w2 ⟨⟨hn,hn'⟩|⟨⟨r,rfl⟩,hp⟩,hB⟩
   ·subst hn
    obtain⟨hB2,hrow2,-,-⟩:=hstep w2 hB
    clear hB hstep hlast hnew hone hend g0 g1 g2 g3 g4 g5
    go_wp2_with (go_at_call 55;refine (as_nil _ _).mono ?_;rintro e w3 ⟨rfl,rfl⟩)
    go_roundw
    case rel=>exact⟨3+1,by omega,by go_num,H1.out hn',hB2,hrow2⟩
    case measure=>simp[intOf]
   ·obtain⟨hB2,-,hbx,hbl⟩:=hstep w2 hB
    have hhit:=as_hit 4 r wr.heap.size _ _ w2 (hE.later hB2) hbx;have hl2:=hlast w2;clear hB hstep hlast hnew hone hend g0 g1 g2 g3 g4 g5
    go_wp2_with (go_at_call 55;refine hhit.mono ?_;rintro e w3 ⟨rfl,hc0,e1,e2,e3,e4,e5⟩)
    go_ret
    exact⟨4,rfl,H2.out hp,hl2 w3 hB2 e1 e2 e3 e4 e5⟩
  ·have c0:wr.cell? ⟨w.heap.size,4,none⟩=some (.func (.func 53) #[] #[]):=by simp[World.cell?,hrow]
   have H1:Hid (¬ Q 4→∀ j,j<4+1→¬ Q j):=fun h j hj=>by
    by_cases e:j=4
    ·subst e;exact h
    ·exact hno j (by omega)
   have H2:Hid (Q 4→C (5:Int)):=fun h=>by have:=hone 4 hno h;simpa using this
   go_wp2_with (go_at_call 53;refine hold ?_)
   refine (g4 _ (hal _)).mono ?_;rintro e w2 ⟨⟨hn,hn'⟩|⟨⟨r,rfl⟩,hp⟩,hB⟩
   ·subst hn
    obtain⟨hB2,hrow2,-,-⟩:=hstep w2 hB
    clear hB hstep hlast hnew hone hend g0 g1 g2 g3 g4 g5
    go_wp2_with (go_at_call 55;refine (as_nil _ _).mono ?_;rintro e w3 ⟨rfl,rfl⟩)
    go_roundw
    case rel=>exact⟨4+1,by omega,by go_num,H1.out hn',hB2,hrow2⟩
    case measure=>simp[intOf]
   ·obtain⟨hB2,-,hbx,hbl⟩:=hstep w2 hB
    have hhit:=as_hit 5 r wr.heap.size _ _ w2 (hE.later hB2) hbx;have hl2:=hlast w2;clear hB hstep hlast hnew hone hend g0 g1 g2 g3 g4 g5
    go_wp2_with (go_at_call 55;refine hhit.mono ?_;rintro e w3 ⟨rfl,hc0,e1,e2,e3,e4,e5⟩)
    go_ret
    exact⟨5,rfl,H2.out hp,hl2 w3 hB2 e1 e2 e3 e4 e5⟩
  ·have c0:wr.cell? ⟨w.heap.size,5,none⟩=some (.func (.func 54) #[] #[]):=by simp[World.cell?,hrow]
   have H1:Hid (¬ Q 5→∀ j,j<5+1→¬ Q j):=fun h j hj=>by
    by_cases e:j=5
    ·subst e;exact h
    ·exact hno j (by omega)
   have H2:Hid (Q 5→C (6:Int)):=fun h=>by have:=hone 5 hno h;simpa using this
   go_wp2_with (go_at_call 54;refine hold ?_)
   refine (g5 _ (hal _) (hno 0 (by omega))).mono ?_;rintro e w2 ⟨⟨hn,hn'⟩|⟨⟨r,rfl⟩,hp⟩,hB⟩
   ·subst hn
    obtain⟨hB2,hrow2,-,-⟩:=hstep w2 hB
    clear hB hstep hlast hnew hone hend g0 g1 g2 g3 g4 g5
    go_wp2_with (go_at_call 55;refine (as_nil _ _).mono ?_;rintro e w3 ⟨rfl,rfl⟩)
    go_roundw
    case rel=>exact⟨5+1,by omega,by go_num,H1.out hn',hB2,hrow2⟩
    case measure=>simp[intOf]
   ·obtain⟨hB2,-,hbx,hbl⟩:=hstep w2 hB
    have hhit:=as_hit 6 r wr.heap.size _ _ w2 (hE.later hB2) hbx;have hl2:=hlast w2;clear hB hstep hlast hnew hone hend g0 g1 g2 g3 g4 g5
    go_wp2_with (go_at_call 55;refine hhit.mono ?_;rintro e w3 ⟨rfl,hc0,e1,e2,e3,e4,e5⟩)
    go_ret
    exact⟨6,rfl,H2.out hp,hl2 w3 hB2 e1 e2 e3 e4 e5⟩
  ·have H:Hid (C 0):=hend fun j hj=>hno j hj;clear hstep hlast hnew hone hend g0 g1 g2 g3 g4 g5 hno;go_wp2_with fail;go_ret
   exact⟨0,rfl,H.out,hb⟩

end Ck
end Go.Proofs.YtllbachngocmnaaGreatDoor
