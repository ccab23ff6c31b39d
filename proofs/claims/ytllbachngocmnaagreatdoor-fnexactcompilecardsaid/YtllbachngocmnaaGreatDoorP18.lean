/-
  The program's Deep: depth by depth, each list of kids once.
-/
import Derived.Test.YtllbachngocmnaaGreatDoorP03
import Derived.Test.YtllbachngocmnaaGreatDoorP15
namespace Go.Proofs.YtllbachngocmnaaGreatDoor
open Go.RowKit
namespace Nd

structure Fr (S:Nat→Prop)(w w':World):Prop where
 os:w'.os=w.os
 tape:w'.tape=w.tape
 output:w'.output=w.output
 size:w.heap.size≤w'.heap.size
 block:∀ k,k<w.heap.size→¬ S k→w'.heap[k]?=w.heap[k]?
theorem Fr.refl (S:Nat→Prop)(w:World):Fr S w w:=⟨rfl,rfl,rfl,Nat.le_refl _,fun _ _ _=>rfl⟩
theorem Fr.trans {S:Nat→Prop}{a b c:World}(h:Fr S a b)(h':Fr S b c):Fr S a c :=
 ⟨h'.os.trans h.os,h'.tape.trans h.tape,h'.output.trans h.output,Nat.le_trans h.size h'.size,fun k hk hS=>(h'.block k (Nat.lt_of_lt_of_le hk h.size) hS).trans (h.block k hk hS)⟩
theorem fr_below {S:Nat→Prop}{a b:World}(h:Below a.heap.size a b):Fr S a b:=⟨h.os,h.tape,h.output,h.size,fun k hk _=>h.block k hk⟩
theorem Fr.grown {S:Nat→Prop}{a b c:World}{row:Option Nat}(h:Fr S a b)(hg:b.grownBy c row)(hr:∀ k,row=some k→a.heap.size≤k∨S k):Fr S a c :=
 ⟨hg.os.trans h.os,hg.tape.trans h.tape,hg.output.trans h.output,Nat.le_trans h.size hg.size,fun k hk hS=>(hg.block k (Nat.lt_of_lt_of_le hk h.size) fun e=>by rcases hr k e.symm with h'|h';omega;exact hS h').trans (h.block k hk hS)⟩

def RowsIs (w:World):List (List Data)→List Value→List Value→Prop
 | [],vs,xs=>vs=[]∧xs=[]
 | l::ls,vs,xs=>∃ v vs' c1 c2,vs=v::vs'∧xs=c1++c2∧w.ownsRow 0 51 4 v l.length c1∧RowsIs w ls vs' c2

theorem rows_snoc {w:World}:∀ {ls:List (List Data)} {l:List Data} {vs xs:List Value} {v:Value} {c:List Value},RowsIs w ls vs xs→w.ownsRow 0 51 4 v l.length c→RowsIs w (ls++[l]) (vs++[v]) (xs++c)
 | [],l,vs,xs,v,c,h,h1=>by
  simp only[RowsIs] at h
  obtain⟨rfl,rfl⟩:=h
  exact⟨v,[],c,[],rfl,by simp,h1,rfl,rfl⟩
 | l'::ls,l,vs,xs,v,c,h,h1=>by
  simp only[RowsIs] at h
  obtain⟨v',vs',c1,c2,rfl,rfl,h2,h3⟩:=h
  exact⟨v',vs'++[v],c1,c2++c,rfl,by simp,h2,rows_snoc h3 h1⟩
theorem rows_frame {w w':World}(hw:∀ g,Cellsy w g→w'.heap[g]?=w.heap[g]?):∀ {ls:List (List Data)} {vs xs:List Value},RowsIs w ls vs xs→RowsIs w' ls vs xs
 | [],vs,xs,h=>h
 | l::ls,vs,xs,h=>by
  simp only[RowsIs] at h
  obtain⟨v,vs',c1,c2,rfl,rfl,h2,h3⟩:=h
  refine⟨v,vs',c1,c2,rfl,rfl,owns_same h2 fun g hg=>hw g ?_,rows_frame hw h3⟩
  rcases h2.2 with ⟨e,_⟩|⟨g',cap,cur,e,_,hb,_⟩
  ·rw[e] at hg;simp[Value.ownBlock] at hg
  ·rw[e] at hg;simp[Value.ownBlock] at hg;subst hg;exact⟨_,hb⟩
theorem nodes_cells {w:World}(t:Data):∀ (S:Nat→Prop) (cs:List Value),NodeIs w t S cs→NodeIs w t (fun k=>S k∧Cellsy w k) cs:=by
 induction t using tree_ind with
 | h1 t ht =>
  intro S cs h
  obtain⟨op,n,s,ks,rfl⟩:=node_node h
  exact absurd rfl (ht _ _)
 | h ks lab ih =>
  intro S cs h
  rw[NodeIs] at h ⊢
  obtain⟨op,n,s,v,xs,hl,hc,ho,hg,hk⟩:=h
  have key:∀ (ts:List Data),(∀ t∈ts,∀ (S:Nat→Prop) (cs:List Value),NodeIs w t S cs→NodeIs w t (fun k=>S k∧Cellsy w k) cs)→∀ (S:Nat→Prop) (xs:List Value),NodesIs w ts S xs→NodesIs w ts (fun k=>S k∧Cellsy w k) xs:=by
   intro ts
   induction ts with
   | nil=>intro _ S xs h;simpa only [NodesIs] using h
   | cons t ts ih2 =>
    intro hT S xs h;simp only[NodesIs] at h ⊢
    obtain⟨S1,S2,c1,c2,hx,h1,h2,h3,h4⟩:=h
    exact⟨_,_,c1,c2,hx,hT t (by simp) _ _ h1,ih2 (fun t ht=>hT t (by simp[ht])) _ _ h2,fun k hk=>⟨⟨(h3 k hk.1).1,hk.2⟩,fun h=>(h3 k hk.1).2 h.1⟩,fun k hk=>⟨h4 k hk.1,hk.2⟩⟩
  refine⟨op,n,s,v,xs,hl,hc,ho,fun g h=>⟨hg g h,?_⟩,nodes_mono (key ks ih _ _ hk) fun k hk=>⟨⟨hk.1.1,hk.2⟩,hk.1.2⟩⟩
  rcases ho.2 with ⟨e,_⟩|⟨g',cap,cur,e,_,hb,_⟩
  ·rw[e] at h;simp[Value.ownBlock] at h
  ·rw[e] at h;simp[Value.ownBlock] at h;subst h;exact⟨_,hb⟩
theorem nodesCells {w:World}:∀ {ts:List Data} {S:Nat→Prop} {xs:List Value},NodesIs w ts S xs→NodesIs w ts (fun k=>S k∧Cellsy w k) xs
 | [],S,xs,h=>by simpa only [NodesIs] using h
 | t::ts,S,xs,h=>by
  simp only[NodesIs] at h ⊢
  obtain⟨S1,S2,c1,c2,hx,h1,h2,h3,h4⟩:=h
  exact⟨_,_,c1,c2,hx,nodes_cells t _ _ h1,nodesCells h2,fun k hk=>⟨⟨(h3 k hk.1).1,hk.2⟩,fun h=>(h3 k hk.1).2 h.1⟩,fun k hk=>⟨h4 k hk.1,hk.2⟩⟩

def Got (w wr:World)(m n0:Nat)(Sr:Nat→Prop)(bl:List (List Data))(v:Value):Prop :=
 ∃ (vs xb:List Value) (Sb:Nat→Prop) (G:List Nat),wr.ownsRow w.heap.size 49 1 v bl.length vs∧RowsIs w bl vs xb∧NodesIs w bl.flatten Sb xb∧MapIs wr m G∧G.length=n0+bl.length ∧
  (∀ g∈G,Cellsy w g)∧(∀ g∈G,¬ Sr g∧¬ Sb g)∧(∀ k,Sb k→¬ Sr k)∧Fr (fun k=>k=m) w wr

theorem Got.less {w wr:World}{m n0:Nat}{Sr Sr':Nat→Prop}{bl:List (List Data)}{v:Value}(h:Got w wr m n0 Sr bl v)(hS:∀ k,Sr' k→Sr k):Got w wr m n0 Sr' bl v:=by
 obtain⟨vs,xb,Sb,G,h1,h2,h3,h4,h5,h6,h7,h8,h9⟩:=h
 exact⟨vs,xb,Sb,G,h1,h2,h3,h4,h5,h6,fun g hg=>⟨fun h=>(h7 g hg).1 (hS g h),(h7 g hg).2⟩,fun k hk h=>h8 k hk (hS k h),h9⟩
theorem Got.kept {w wr w':World}{m n0:Nat}{Sr:Nat→Prop}{bl:List (List Data)}{v:Value}(h:Got w wr m n0 Sr bl v)(hb:Below wr.heap.size wr w'):Got w w' m n0 Sr bl v:=by
 obtain⟨vs,xb,Sb,G,h1,h2,h3,h4,h5,h6,h7,h8,h9⟩:=h
 exact⟨vs,xb,Sb,G,owns_same h1 fun g hg=>hb.block g (h1.lt g hg).2,h2,h3,h4.same (hb.block _ h4.lt),h5,h6,h7,h8,h9.trans (fr_below hb)⟩

theorem hold {p:Prop}(h:Hid p):p:=h
theorem wpList_lookup_plain {P:Program}(w:World){ops:Array Oper}{rest:List Oper}{o:Oper}{a:Act}{Q:Exit→Act→World→Prop}
  (hg:o.guard=none) (m x:Operand) (t:TypeId) (hop:o.op=Op.lookup t m x false) (mv kv:Value) (hm:a.eval m=mv) (hx:a.eval x=kv) (r:Value)
  (hrun:(Instr.lookup t mv kv false).run P w=.ok r w) (hK:wpList P ops Q rest (a.put o.dst r) w):wpList P ops Q (o::rest) a w:=by
 refine wpList_plain hg fun K' hK'=>?_;unfold Oper.wp;simp[execOp,hop,hm,hx,hrun,Result.andThen];exact hK' _ _ hK
theorem wpList_mapUpdate_plain {P:Program}(w w':World){ops:Array Oper}{rest:List Oper}{o:Oper}{a:Act}{Q:Exit→Act→World→Prop}
  (hg:o.guard=none) (m x v:Operand) (t:TypeId) (hop:o.op=Op.mapUpdate t m x v) (mv kv vv:Value) (hm:a.eval m=mv) (hx:a.eval x=kv) (hv:a.eval v=vv)
  (hrun:(Instr.mapUpdate t mv kv vv).run P w=.ok () w') (hK:wpList P ops Q rest (a.put o.dst undef) w'):wpList P ops Q (o::rest) a w:=by
 refine wpList_plain hg fun K' hK'=>?_;unfold Oper.wp;simp[execOp,hop,hm,hx,hv,hrun,Result.andThen];exact hK' _ _ hK

theorem Tryz.infoRowr:(Tryz.prog.info? 49).map (fun i=>(i.zero,i.size,i.bytes))=some (some (.slice none 0 0),1,24):=by kernel_rfl

set_option maxHeartbeats 4000000 in
set_option maxRecDepth 100000 in
theorem iKidsBelowR {R:Nat→Prop}{ls:List (List Data)}{w:World}{lv:Value}{vs0 xs0:List Value}{S0:Nat→Prop}{m d B:Nat}{G0:List Nat}(hd:1≤d)(hd2:d≤1048577)
  (hlv:w.ownsRow B 49 1 lv ls.length vs0) (hrows:RowsIs w ls vs0 xs0) (hnodes:NodesIs w ls.flatten S0 xs0) (hmap:MapIs w m G0) (hcl:∀ g∈G0,Cellsy w g) (hdis:∀ g∈G0,¬ S0 g)
  (hcnt:cnts ls.flatten≤1048577) (hne:∀ l∈ls,l≠[]) (hR0:∀ k,S0 k→¬ R k) (hRG:∀ g∈G0,¬ R g):
  Calls Tryz.prog 135 #[lv,.map (some m),.int .i64 d] w fun e w'=>∃ v,e=.returned v∧Got w w' m G0.length R (below ls) v:=by
 obtain⟨ao,cap,rfl⟩:=owns_slice hlv
 have hfl:=cnts_len ls.flatten;have hll:ls.length≤1048577:=by
  have:∀ ls:List (List Data),(∀ l∈ls,l≠[])→ls.length≤ls.flatten.length:=by
   intro ls
   induction ls with
   | nil=>intro _;simp
   | cons l ls ih =>
    intro h;have h1:=h l (by simp);have h2:=ih fun l hl=>h l (by simp[hl])
    have:0<l.length:=List.length_pos_iff.2 h1
    simp only[List.length_cons,List.flatten_cons,List.length_append];omega
  have:=this ls hne
  omega
 have hlI:(ls.length:Int)≤1048577:=by omega
 have hdI:(1:Int)≤d:=by omega
 have hdI2:(d:Int)≤1048577:=by omega
 have hbelow:(below ls).length≤1048577:=by rw[below_flat];have:=below1_len ls.flatten;omega
 obtain⟨i0,hi0,hz0,hz1,hz2⟩:=info_parts Tryz.infoRowr
 clear hd hd2 hll
 go_enter Tryz.func135,Tryz.ntmps135
 go_wp2_with fail
 go_loopw [7,15] (fun v i wr=>∃ k:Nat,k≤ls.length∧i=.int .i64 k∧∃ xr Sr,RowsIs w (ls.drop k) (vs0.drop k) xr∧NodesIs w (ls.drop k).flatten Sr xr∧(∀ k,Sr k→¬ R k)∧Got w wr m G0.length (fun k=>Sr k∨R k) (below (ls.take k)) v) (fun _ i _=>ls.length - (intOf i).toNat)
 case atStart =>
  exact⟨0,Nat.zero_le _,rfl,xs0,S0,hrows,hnodes,hR0,[],[],fun _=>False,G0,World.ownsRow_nil _ _ _ _,⟨rfl,rfl⟩,rfl,hmap,rfl,hcl,fun g hg=>⟨fun h=>h.elim (hdis g hg) (hRG g hg),id⟩,fun k hk=>hk.elim,Fr.refl _ _⟩
 case round =>
  obtain⟨k,hk,rfl,xr,Sr,hR,hN,hSR,hG⟩:=hrel
  by_cases hkl:k<ls.length
  ·obtain⟨l,hl⟩:∃ l,l=ls[k]:=⟨_,rfl⟩
   have hki:ls[k]?=some l:=by rw[hl];exact List.getElem?_eq_getElem hkl
   have hdr:ls.drop k=l::ls.drop (k+1):=by rw[hl];exact List.drop_eq_getElem_cons hkl
   have hlen:(l.length:Int)≤1048577:=by
    have h1:=cnts_append (ls.take k).flatten (ls.drop k).flatten
    rw[← List.flatten_append,List.take_append_drop,hdr,List.flatten_cons,cnts_append] at h1
    have:=cnts_len l
    omega
   have hfl2:(ls.take k).flatten.length+l.length≤1048577:=by
    have h1:=congrArg List.length (List.flatten_append (L₁:=ls.take k) (L₂:=ls.drop k))
    rw[List.take_append_drop,List.length_append,hdr,List.flatten_cons,List.length_append] at h1
    omega
   have hcl2:cnts l≤1048577:=by
    have h1:=cnts_append (ls.take k).flatten (ls.drop k).flatten
    rw[← List.flatten_append,List.take_append_drop,hdr,List.flatten_cons,cnts_append] at h1
    omega
   rw[hdr] at hR hN
   obtain⟨hv,vs',c1,c2,hvs,rfl,hrow,hR2⟩:=hR
   rw[List.flatten_cons] at hN
   obtain⟨S1,S2,d1,d2,hdd,hN1,hN2,hS12,hS2⟩:=nodes_split hN
   replace hS12:∀ k,S1 k→Sr k∧¬ (S2 k∨R k):=fun k hk=>⟨(hS12 k hk).1,fun h=>h.elim (hS12 k hk).2 (hSR k (hS12 k hk).1)⟩;have hS2R:∀ k,S2 k→¬ R k:=fun k hk=>hSR k (hS2 k hk)
   obtain⟨rfl,rfl⟩:=List.append_inj hdd (by rw[hrow.1,nodes_len hN1])
   have hvk:vs0[k]?=some hv:=by
    have:(vs0.drop k)[0]?=some hv:=by rw[hvs];rfl
    simpa using this
   have hvs2:vs0.drop (k+1)=vs':=by rw[← List.tail_drop,hvs];rfl
   rw[← hvs2] at hR2
   have hbt:below (ls.take (k+1))=below (ls.take k)++below1 l:=below_take hki
   obtain⟨g,rfl,hg,hc⟩:=row_cells hlv hkl
   have hcell:=hc k hv hvk
   obtain⟨ao',cap',rfl⟩:=owns_slice hrow
   have bk:(k:Int)<ls.length:=by omega
   have hcell':wr.cell? ⟨g,k,none⟩=some (.slice ao' l.length cap'):=by
    obtain⟨vs,xb,Sb,G,h1,h2,h3,h4,h5,h6,h7,h8,h9⟩:=hG
    refine (World.cell?_of_block (h9.block g hg ?_)).trans hcell;rintro rfl
    obtain⟨es,cl,he,_⟩:=hmap
    simp[World.cell?,he] at hcell
   have HBT:Hid _:=hbt;have hG2:Got w wr m G0.length (fun k=>S1 k∨(S2 k∨R k)) (below (ls.take k)++below1 (l.take 0)) u7:=by
    simp only[List.take_zero,below1,List.append_nil];exact hG.less fun k hk=>hk.elim (fun h=>.inl (hS12 k h).1) (fun h=>h.imp (hS2 k) id)
   clear hl hdr hvs hvk hcell hc hvs2 hbt hN hG;go_wp2_with fail
   go_loopw [7,21] (fun v j wi=>∃ q:Nat,q≤l.length∧j=.int .i64 q∧∃ Sq,NodesIs w (l.drop q) Sq (c1.drop (q*4))∧(∀ k,Sq k→S1 k)∧Got w wi m G0.length (fun k=>Sq k∨(S2 k∨R k)) (below (ls.take k)++below1 (l.take q)) v) (fun _ j _=>l.length - (intOf j).toNat)
   case atStart=>exact⟨0,Nat.zero_le _,rfl,S1,by simpa using hN1,fun k hk=>hk,hG2⟩
   case round =>
    obtain⟨q,hq,rfl,Sq,hNq,hSq,hGq⟩:=hrel
    by_cases hql:q<l.length
    ·obtain⟨t,ht⟩:∃ t,t=l[q]:=⟨_,rfl⟩
     have hqi:l[q]?=some t:=by rw[ht];exact List.getElem?_eq_getElem hql
     have hdr:l.drop q=t::l.drop (q+1):=by rw[ht];exact List.drop_eq_getElem_cons hql
     rw[hdr] at hNq
     obtain⟨T1,T2,d1,d2,hdd,hT1,hT2,hT12,hT2q⟩:=hNq
     have hd1:=node_len hT1;have hd2:d2=c1.drop ((q+1)*4):=by
      have h4:(d1++d2).drop 4=d2:=by rw[← hd1];exact List.drop_left
      rw[← h4,← hdd,List.drop_drop,show (q+1)*4=q*4+4 by omega]
     match d1,hd1 with
     | [a,b,c,u],_ =>
      obtain⟨op,n,s,ao2,cap2,xs,-,rfl,rfl,rfl,rfl,hro,hrg,hrn⟩:=node_form hT1
      have hx:∀ j v,([.int .i64 op,.int .i64 n,.string ⟨s.toArray⟩,.slice ao2 (kidsOf t).length cap2]:List Value)[j]?=some v→c1[q*4+j]?=some v:=fun j v hj=>by
       have:(c1.drop (q*4))[j]?=some v:=by rw[hdd,List.getElem?_append_left (by simpa using (List.getElem?_eq_some_iff.1 hj).1)];exact hj
       simpa using this
      obtain⟨g1,rfl,hg1,hc1⟩:=row_cells hrow hql
      obtain⟨cur1,hcur1⟩:Cellsy w g1:=by
       obtain⟨g',cur,e,hb⟩:=owns_block hrow (by omega)
       simp at e;subst e;exact⟨cur,hb⟩
      have bq:(q:Int)<l.length:=by omega
      obtain⟨vs,xb,Sb,G,h1,h2,h3,h4,h5,h6,h7,h8,h9⟩:=hGq
      have hgm:∀ g,Cellsy w g→g≠m:=fun g hg=>hmap.not hg;have hcy:∀ g,Cellsy w g→Cellsy wr g:=fun g hg=>by
       obtain⟨cur,hc⟩:=hg
       exact⟨cur,(h9.block g (heap_lt hc) (hgm g ⟨cur,hc⟩)).trans hc⟩
      have hcc:∀ j v,c1[j]?=some v→wr.cell? ⟨g1,j,none⟩=some v:=fun j v hj=>(World.cell?_of_block (h9.block g1 hg1 (hgm g1 ⟨cur1,hcur1⟩))).trans (hc1 j v hj);have p0:=hcc _ _ (hx 0 _ rfl);have p1:=hcc _ _ (hx 1 _ rfl);have p2:=hcc _ _ (hx 2 _ rfl);have p3:=hcc _ _ (hx 3 _ rfl);simp only[Nat.add_zero] at p0;have hb1:below1 (l.take (q+1))=below1 (l.take q)++if kidsOf t=[] then [] else [kidsOf t]:=below1_take hqi
      by_cases hkt:kidsOf t=[]
      ·have HL:Hid (kidsOf t=[]):=hkt;have hlen0:(kidsOf t).length=0:=by rw[hkt];rfl
       rw[hlen0] at p3
       rw[if_pos hkt,List.append_nil] at hb1
       have HB1:Hid _:=hb1;have hGot:Got w wr m G0.length (fun k=>T2 k∨(S2 k∨R k)) (below (ls.take k)++below1 (l.take (q+1))) u7:=by
        rw[HB1.out]
        exact Got.less (Sr:=fun k=>Sq k∨(S2 k∨R k)) ⟨vs,xb,Sb,G,h1,h2,h3,h4,h5,h6,h7,h8,h9⟩ fun k hk=>hk.imp (hT2q k) id
       clear hkt hb1 hlen0 hdd hcc hx hc1 h1 h2 h3 h4 h5 h6 h7 h8 h9 hro hrg hrn ht hqi hdr hT12 hcy;go_wp2_with fail;go_roundw
       case rel =>
        exact⟨q+1,hql,by go_num,T2,by rw[← hd2];exact hT2,fun k hk=>hSq k (hT2q k hk),hGot.kept ((Below.refl _ _).alloc (Nat.le_refl _) _)⟩
       case measure=>simp[intOf];omega
      ·rw[if_neg hkt] at hb1
       have hpos:0<(kidsOf t).length:=List.length_pos_iff.2 hkt
       obtain⟨g2,cur2,e2,hg2⟩:=owns_block hro hpos
       subst e2;have hL2:(kidsOf t).length≤1048577:=by
        have a1:=cnts_mem (t:=t) (ts:=l) (by rw[ht];exact List.getElem_mem _);have a2:=cnt_kids t;have a3:=cnts_len (kidsOf t);omega
       have hbl:(below (ls.take k)++below1 (l.take q)).length+1≤1048577:=by
        have a1:=below1_len (ls.take k).flatten;have a2:=below1_len (l.take q)
        rw[← below_flat] at a1
        rw[List.length_take] at a2
        rw[List.length_append]
        omega
       have hcy2:Cellsy w g2:=⟨cur2,hg2⟩;have hT1g:T1 g2:=hrg g2 rfl;have hSqg:Sq g2:=(hT12 g2 hT1g).1;have hnot:g2∉G:=fun h=>(h7 g2 h).1 (.inl hSqg);have hlk:∀ w',Below wr.heap.size wr w'→(Instr.lookup 189 (.map (some m)) (keyV g2 (kidsOf t).length) false).run Tryz.prog w'=.ok (.int .i64 0) w':=fun w' hb =>
        run_unseen (h4.same (hb.block _ h4.lt)) (fun g hg=>by obtain⟨cur,hc⟩:=hcy g (h6 g hg);exact⟨cur,(hb.block g (heap_lt hc)).trans hc⟩) _ (by obtain⟨cur,hc⟩:=hcy g2 hcy2;exact⟨cur,(hb.block g2 (heap_lt hc)).trans hc⟩) hnot
       have hpt:∀ w',Below wr.heap.size wr w'→∃ w'',(Instr.mapUpdate 189 (.map (some m)) (keyV g2 (kidsOf t).length) (.int .i64 d)).run Tryz.prog w'=.ok () w''∧MapIs w'' m (G++[g2])∧w'.grownBy w'' (some m)∧w''.heap.size=w'.heap.size:=fun w' hb =>
        run_put (h4.same (hb.block _ h4.lt)) (fun g hg=>by obtain⟨cur,hc⟩:=hcy g (h6 g hg);exact⟨cur,(hb.block g (heap_lt hc)).trans hc⟩) _ _ (by obtain⟨cur,hc⟩:=hcy g2 hcy2;exact⟨cur,(hb.block g2 (heap_lt hc)).trans hc⟩) hnot
       have hstep:∀ w2 v2,w2.ownsRow w.heap.size 49 1 v2 ((below (ls.take k)++below1 (l.take q)).length+1) (vs++[.slice (some ⟨g2,0,none⟩) (kidsOf t).length cap2])→MapIs w2 m (G++[g2])→Fr (fun k=>k=m) w w2→Got w w2 m G0.length (fun k=>T2 k∨(S2 k∨R k)) (below (ls.take k)++below1 (l.take (q+1))) v2:=by
        intro w2 v2 a1 a2 a3
        rw[hb1,← List.append_assoc]
        refine⟨vs++[.slice (some ⟨g2,0,none⟩) (kidsOf t).length cap2],xb++xs,fun k=>Sb k∨(T1 k∧k≠g2),G++[g2],by rw[List.length_append (bs:=[kidsOf t])];exact a1,rows_snoc h2 hro,?_,a2,by simp only[List.length_append,List.length_singleton] at h5 ⊢;omega,?_,?_,?_,a3⟩
        ·rw[List.flatten_append,List.flatten_cons,List.flatten_nil,List.append_nil]
         refine nodes_append h3 (nodes_mono hrn (S':=fun k=>T1 k∧k≠g2) fun k hk=>⟨hk.1,fun e=>hk.2 (by rw[e];rfl)⟩) (fun k hk=>⟨.inl hk,fun h=>h8 k hk (.inl (hT12 k h.1).1)⟩) (fun k hk=>.inr hk)
        ·intro g hg;rcases List.mem_append.1 hg with hg|hg
         ·exact h6 g hg
         ·simp at hg;subst hg;exact hcy2
        ·intro g hg;rcases List.mem_append.1 hg with hg|hg
         ·refine⟨fun h=>(h7 g hg).1 (h.imp (hT2q g) id),fun h=>?_⟩
          rcases h with h|h
          ·exact (h7 g hg).2 h
          ·exact (h7 g hg).1 (.inl (hT12 g h.1).1)
         ·simp at hg;subst hg
          refine⟨fun h=>?_,fun h=>?_⟩
          ·rcases h with h|h
           ·exact (hT12 _ hT1g).2 h
           ·exact (hS12 _ (hSq _ hSqg)).2 h
          ·rcases h with h|h
           ·exact h8 _ h (.inl hSqg)
           ·exact h.2 rfl
        ·intro k hk h;rcases hk with hk|hk
         ·exact h8 k hk (h.imp (hT2q k) id)
         ·rcases h with h|h
          ·exact (hT12 k hk.1).2 h
          ·exact (hS12 k (hSq k (hT12 k hk.1).1)).2 h
       have hdesc:NodesIs w (l.drop (q+1)) T2 (c1.drop ((q+1)*4)):=by rw[← hd2];exact hT2
       have hTS:∀ k,T2 k→S1 k:=fun k hk=>hSq k (hT2q k hk);have HF:=h9;have hml:=h4.lt;have hmw:=hmap.lt;generalize (below (ls.take k)++below1 (l.take q)).length=bl at *;have hLI:(1:Int)≤(kidsOf t).length:=by omega
       have hLI2:((kidsOf t).length:Int)≤1048577:=by omega
       clear hkt hb1 hdd hcc hx hc1 h2 h3 h4 h5 h6 h7 h8 h9 hro hrg hrn ht hqi hdr hT12 hcy hT1 hT2 hT2q hd2 hN1 hS12 hS2 hSq hfl2 hcl2 hcnt hfl hbelow hG2 hnot hSqg hT1g hrows hnodes hcl hdis hcy2 hN2 hR2 hgm HBT hlv hpos hL2;generalize (kidsOf t).length=L at *;go_wp2_with fail;have hLb:((L:Int)==0)=false:=by simp;omega
       go_region
       obtain⟨oN,hoN⟩:∃ oN,oN=Obj.cells #[.int .i64 op,.int .i64 n,.string ⟨s.toArray⟩,.slice (some ⟨g2,0,none⟩) L cap2] 51:=⟨_,rfl⟩
       obtain⟨oK,hoK⟩:∃ oK,oK=Obj.cells #[.pointer (some ⟨g2,0,none⟩),.int .i64 (L:Int)] 195:=⟨_,rfl⟩
       have hb9:Below wr.heap.size wr ((wr.alloc oN).alloc oK).drew:=(((Below.refl _ wr).alloc (Nat.le_refl _) _).alloc (by simp) _).drew;have HN:Hid (((wr.alloc oN).alloc oK).drew.heap[wr.heap.size]?=some oN):=by
        have:=heap_new wr oN
        show ((wr.alloc oN).alloc oK).heap[wr.heap.size]?=some oN
        rw[Below.heap_alloc _ _ _ (by simp),this]
       have hlk9:=hlk _ hb9
       obtain⟨w1,hrun1,hm1,hg1',hs1⟩:=hpt _ hb9
       have hsz9:((wr.alloc oN).alloc oK).drew.heap.size=wr.heap.size+2:=by simp
       have hown1:w1.ownsRow w.heap.size 49 1 u7 bl vs:=owns_same h1 fun g hg=>by
        have a1:=h1.lt g hg;exact (hg1'.block g (by omega) (fun e=>by simp at e;omega)).trans (hb9.block g a1.2)
       have hc3:w1.cell? ⟨wr.heap.size,3,none⟩=some (.slice (some ⟨g2,0,none⟩) L cap2):=by
        have a1:=(hg1'.block wr.heap.size (by omega) (fun e=>by simp at e;omega)).trans HN.out;simp[World.cell?,a1,hoN]
       have hF1:Fr (fun k=>k=m) w w1:=(HF.trans (fr_below hb9)).grown hg1' (fun k e=>.inr (by simpa using e.symm));have hms:w.heap.size≤w1.heap.size:=hF1.size;subst hoN hoK;clear hlk hpt hb9 HN hg1' hmap hs1 hsz9
       go_wp2_with (first
        | (at_lookup;refine wpList_lookup_plain _ rfl _ _ 189 rfl (.map (some m)) (keyV g2 L) rfl rfl _ hlk9 ?_)
        | (at_mapUpdate;refine wpList_mapUpdate_plain _ w1 rfl _ _ _ 189 rfl (.map (some m)) (keyV g2 L) (.int .i64 d) rfl rfl rfl hrun1 ?_)
        | (at_builtin;refine wpList_append_own_at _ rfl _ _ 190 rfl w.heap.size 49 i0 (.slice none 0 0) 1 24 Tryz.underlying190 hi0 hz0 hz1 hz2 rfl (by decide) _ _ _ rfl (hown1.alloc _) ⟨w1.heap.size,0,none⟩ 1 1 [.slice (some ⟨g2,0,none⟩) L cap2] rfl rfl (cell_one_new _ _ _) (by simp[Value.oneCell']) (by unfold maxLen;omega) (by omega) (by simp;omega) ?_;intro v' w2 hown' hgrow2 _ hb2))
       have hmo:∀ k,u7.ownBlock=some k→w.heap.size≤k:=fun k hk=>(h1.lt k hk).1;go_roundw
       case rel =>
        refine⟨q+1,hql,by go_num,T2,hdesc,hTS,hstep w2 v' hown' (hm1.same ?_) ?_⟩
        ·refine (hgrow2.block m (by rw[World.size_alloc];have:=hm1.lt;omega) (fun e=>by have:=hmo m e.symm;omega)).trans (Below.heap_alloc _ _ _ hm1.lt)
        ·exact (hF1.trans (fr_below ((Below.refl _ _).alloc (Nat.le_refl _) _))).grown hgrow2 (fun k e=>.inl (hmo k e))
       case measure=>simp[intOf];omega
    ·obtain rfl:q=l.length:=by omega
     have hGe:Got w wr m G0.length (fun k=>S2 k∨R k) (below (ls.take (k+1))) u7:=by
      rw[HBT.out]
      rw[List.take_length] at hGq
      exact hGq.less fun k hk=>.inr hk
     clear hGq hNq hSq hG2 hN1 hS12 hS2 HBT;go_wp2_with fail
     exact⟨⟨k+1,hkl,by go_num,c2,S2,hR2,hN2,hS2R,hGe⟩,by simp[intOf];omega⟩
  ·obtain rfl:k=ls.length:=by omega
   rw[List.take_length] at hG
   go_wp2_with fail;go_ret
   exact⟨_,rfl,hG.less fun k hk=>.inr hk⟩

theorem iKidsBelow {ls:List (List Data)}{w:World}{lv:Value}{vs0 xs0:List Value}{S0:Nat→Prop}{m d B:Nat}{G0:List Nat}(hd:1≤d)(hd2:d≤1048577)
  (hlv:w.ownsRow B 49 1 lv ls.length vs0) (hrows:RowsIs w ls vs0 xs0) (hnodes:NodesIs w ls.flatten S0 xs0) (hmap:MapIs w m G0) (hcl:∀ g∈G0,Cellsy w g) (hdis:∀ g∈G0,¬ S0 g)
  (hcnt:cnts ls.flatten≤1048577) (hne:∀ l∈ls,l≠[]):
  Calls Tryz.prog 135 #[lv,.map (some m),.int .i64 d] w fun e w'=>∃ v,e=.returned v∧Got w w' m G0.length (fun _=>False) (below ls) v :=
 iKidsBelowR (R:=fun _=>False) hd hd2 hlv hrows hnodes hmap hcl hdis hcnt hne (fun _ _=>id) (fun _ _=>id)

end Nd
end Go.Proofs.YtllbachngocmnaaGreatDoor
