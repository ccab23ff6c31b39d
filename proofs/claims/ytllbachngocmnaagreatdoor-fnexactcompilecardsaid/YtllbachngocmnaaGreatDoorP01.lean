/-
  Rows of equal length in a block; a state's values and cells.
-/
import Derived.Test.YtllbachngocmnaaGreatDoorProg
import Derived.WalkKit
import Derived.Laws.MakeOwn
import Derived.Below
import Derived.OwnWalk
import Derived.WalkLawsBesides
import Derived.Deep.RegionWith
import Derived.Deep.CutBlock
import Derived.Deep.CutRange
import Derived.Deep.DeepCutAuto
import Derived.BigQuiet
import Derived.Deep.QuietTactic
import Derived.Deep.LoopGhost
import GoSem.ClaimData
namespace Go.Proofs.YtllbachngocmnaaGreatDoor
open Go.RowKit
namespace St

theorem fm_len {α:Type}{f:α→List Value}{m:Nat}(hf:∀ x,(f x).length=m):∀ vs:List α,(vs.flatMap f).length=vs.length*m
 | []=>by simp
 | x::vs=>by rw[List.flatMap_cons,List.length_append,hf,fm_len hf vs,List.length_cons,Nat.succ_mul];omega
theorem fm_get {α:Type}{f:α→List Value}{m:Nat}(hm:0<m)(hf:∀ x,(f x).length=m):∀ (vs:List α) (p:Nat),(vs.flatMap f)[p]?=(vs[p / m]?).bind fun x=>(f x)[p % m]?
 | [],p=>by simp
 | x::vs,p=>by
  rw[List.flatMap_cons]
  by_cases h:p<m
  ·rw[List.getElem?_append_left (by rw[hf];exact h),Nat.div_eq_of_lt h,Nat.mod_eq_of_lt h]
   rfl
  ·rw[List.getElem?_append_right (by rw[hf];omega),hf,fm_get hm hf vs (p - m)]
   have e1:p / m=(p - m) / m+1:=Nat.div_eq_sub_div hm (by omega);have e2:p % m=(p - m) % m:=Nat.mod_eq_sub_mod (by omega)
   rw[e1,e2]
   rfl

def setL (l:List Value)(i:Nat):List Value→List Value
 | []=>l
 | x::xs=>setL (l.set i x) (i+1) xs
theorem setL_get:∀ (xs l:List Value) (i p:Nat),(setL l i xs)[p]?=if i≤p∧p<i+xs.length∧p<l.length then xs[p - i]? else l[p]?
 | [],l,i,p=>by rw[setL,if_neg (by simp;omega)]
 | x::xs,l,i,p=>by
  rw[setL,setL_get xs,List.length_set,List.length_cons,List.getElem?_set]
  by_cases h:i+1≤p∧p<i+1+xs.length∧p<l.length
  ·rw[if_pos h,if_pos (by omega),show p - i=(p - (i+1))+1 by omega,List.getElem?_cons_succ]
  ·rw[if_neg h]
   by_cases hp:i=p
   ·subst hp
    by_cases hl:i<l.length
    ·rw[if_pos rfl,if_pos hl,if_pos (by omega),Nat.sub_self,List.getElem?_cons_zero]
    ·rw[if_pos rfl,if_neg hl,if_neg (by omega),List.getElem?_eq_none (by omega)]
   ·rw[if_neg hp,if_neg (by omega)]
theorem fm_set {α:Type}{f:α→List Value}{m:Nat}(hm:0<m)(hf:∀ x,(f x).length=m){vs:List α}{k:Nat}(hk:k<vs.length)(v:α):setL (vs.flatMap f) (k*m) (f v)=(vs.set k v).flatMap f:=by
 apply List.ext_getElem?;intro p
 rw[setL_get,fm_get hm hf,fm_get hm hf,hf,fm_len hf,List.getElem?_set]
 have hd:=Nat.div_add_mod p m;have hl:=Nat.mod_lt p hm
 by_cases hp:k=p / m
 ·subst hp;have hmul:(p / m+1)*m≤vs.length*m:=Nat.mul_le_mul_right m hk
  rw[Nat.succ_mul] at hmul
  rw[Nat.mul_comm] at hd
  rw[if_pos ⟨by omega,by omega,by omega⟩,if_pos rfl,if_pos hk,Option.bind_some]
  congr 1
  omega
 ·rw[if_neg hp,if_neg]
  rintro⟨h1,h2,_⟩
  apply hp
  have:=Nat.div_eq_of_lt_le (m:=p) (n:=m) (k:=k) (by omega) (by rw[Nat.succ_mul];omega)
  exact this.symm

def Rows {α:Type}(T:TypeId)(f:α→List Value)(w:World)(g:Nat)(vs:List α):Prop:=w.heap[g]?=some (.cells (vs.flatMap f).toArray T (0,0))
abbrev Vl:=Int × Int × ByteArray
def encV (v:Vl):List Value:=[.int .i64 v.1,.int .i64 v.2.1,.string v.2.2]
theorem encV_len (v:Vl):(encV v).length=3:=rfl
def RdV (w:World)(ao:Option Addr)(vs:List Vl):Prop:=∀ i v,vs[i]?=some v→∃ b o,ao=some ⟨b,o,none⟩∧b<w.heap.size∧v.2.2.size≤maxLen ∧
 w.cell? ⟨b,o+i*3,none⟩=some (.int .i64 v.1)∧w.cell? ⟨b,o+i*3+1,none⟩=some (.int .i64 v.2.1)∧w.cell? ⟨b,o+i*3+2,none⟩=some (.string v.2.2)
theorem RdV.below {W w:World}{ao:Option Addr}{vs:List Vl}(h:RdV W ao vs)(hb:Below W.heap.size W w):RdV w ao vs:=by
 intro i v hi
 obtain⟨b,o,e,hl,hs,c0,c1,c2⟩:=h i v hi
 have hc:∀ k,w.cell? ⟨b,k,none⟩=W.cell? ⟨b,k,none⟩:=fun k=>hb.cell (p:=⟨b,k,none⟩) hl
 exact⟨b,o,e,Nat.lt_of_lt_of_le hl hb.size,hs,(hc _).trans c0,(hc _).trans c1,(hc _).trans c2⟩
end St
namespace Oc
open St

theorem hold {p:Prop}(h:Hid p):p:=h
theorem heap_lt {w:World}{g:Nat}{o:Obj}(h:w.heap[g]?=some o):g<w.heap.size:=(Array.getElem?_eq_some_iff.1 h).1
theorem heap_new (w:World)(o:Obj):(w.alloc o).heap[w.heap.size]?=some o:=heap_alloc_new w o

def Blk (T:TypeId)(w:World)(B:Nat)(xs:List Value):Prop:=w.heap[B]?=some (.cells xs.toArray T (0,0))

theorem Blk.lt {T:TypeId}{w:World}{B:Nat}{xs:List Value}(h:Blk T w B xs):B<w.heap.size:=heap_lt h

theorem Blk.cell {T:TypeId}{w:World}{B:Nat}{xs:List Value}(h:Blk T w B xs)(j:Nat){x:Value}(hx:xs[j]?=some x):w.cell? ⟨B,j,none⟩=some x:=by
 unfold Blk at h;simp only[World.cell?,h];simpa using hx

theorem Blk.frozen {T:TypeId}{w:World}{B:Nat}{xs:List Value}(h:Blk T w B xs)(k:Nat):w.frozen? ⟨B,k,none⟩=false:=by
 unfold Blk at h;simp[World.frozen?,h]

theorem Blk.set {T:TypeId}{w:World}{B:Nat}{xs:List Value}(h:Blk T w B xs)(j:Nat)(x:Value):Blk T (w.setCell ⟨B,j,none⟩ x) B (xs.set j x):=by
 unfold Blk at h ⊢
 have:(xs.set j x).toArray=xs.toArray.set! j x:=by apply Array.ext';simp
 rw[this]
 simp[World.setCell,Array.getElem?_modify,h]

theorem Blk.other {T:TypeId}{w:World}{B:Nat}{xs:List Value}(h:Blk T w B xs){g:Nat}(hg:B≠g)(j:Nat)(x:Value):Blk T (w.setCell ⟨g,j,none⟩ x) B xs:=(Below.heap_setCell _ _ _ _ hg).trans h

theorem Blk.alloc {T:TypeId}{w:World}{B:Nat}{xs:List Value}(h:Blk T w B xs)(o:Obj):Blk T (w.alloc o) B xs:=(Below.heap_alloc _ _ _ h.lt).trans h

theorem Blk.below {T:TypeId}{w w':World}{B:Nat}{xs:List Value}(h:Blk T w B xs)(hb:Below w.heap.size w w'):Blk T w' B xs:=(hb.block _ h.lt).trans h

theorem Blk.new (T:TypeId)(w:World)(xs:List Value):Blk T (w.alloc (.cells xs.toArray T)) w.heap.size xs:=heap_new _ _

theorem lEqOp (v:Vl)(w:World):
  Calls Tryz.prog 62 #[.agg #[.int .i64 v.1,.int .i64 v.2.1,.string v.2.2],.agg #[.int .i64 v.1,.int .i64 v.2.1,.string v.2.2]] w fun e w'=>e=.returned (.bool true)∧Below w.heap.size w w':=by
 go_enter Tryz.func62,Tryz.ntmps62
 go_wp2_with fail;go_ret
 exact⟨rfl,((Below.refl _ w).alloc (Nat.le_refl _) _).alloc (by simp) _⟩

set_option maxRecDepth 100000 in
theorem lEqOpS {a1 a2:Option Addr}{c1 c2:Nat}{vs:List Vl}{w:World}(h1:RdV w a1 vs)(h2:RdV w a2 vs)(hn:vs.length≤3000000):
  Calls Tryz.prog 26 #[.slice a1 vs.length c1,.slice a2 vs.length c2] w fun e w'=>e=.returned (.bool true)∧Below w.heap.size w w':=by
 have bn:(vs.length:Int)≤3000000:=by omega
 go_enter Tryz.func26,Tryz.ntmps26
 go_wp2_with fail
 go_loopw [5] (fun i wr=>∃ k:Nat,i=.int .i64 k∧k≤vs.length∧Below w.heap.size w wr) (fun i _=>vs.length - (intOf i).toNat)
 case atStart=>exact⟨0,rfl,Nat.zero_le _,Below.refl _ _⟩
 case round =>
  obtain⟨k,rfl,hk,hb⟩:=hrel
  by_cases hkl:k<vs.length
  ·obtain⟨b1,o1,rfl,_,_,p0,p1,p2⟩:=h1.below hb k vs[k] (List.getElem?_eq_getElem hkl)
   obtain⟨b2,o2,rfl,_,_,q0,q1,q2⟩:=h2.below hb k vs[k] (List.getElem?_eq_getElem hkl)
   generalize vs[k]=v at *;have bk:(k:Int)<vs.length:=by omega
   clear h1 h2;have call:=lEqOp v wr.drew;go_wp2_with fail
   go_region_with (first|(go_at_call 62;refine call.mono ?_;rintro e w2 ⟨rfl,hb2⟩))
   all_goals go_wp2_with fail
   all_goals go_roundw
   all_goals try (simp only[intOf];omega)
   all_goals exact⟨k+1,by go_num,hkl,hb.trans (Below.mono (w:=wr) (B:=wr.heap.size) ⟨hb2.os,hb2.tape,hb2.output,hb2.size,hb2.block⟩ hb.size)⟩
  ·obtain rfl:k=vs.length:=by omega
   go_wp2_with fail;go_ret
   exact⟨rfl,hb⟩

def SmV (v:Vl):Prop:=v.2.2.size≤1048576

end Oc
namespace Pg
open St (Vl RdV)
open Oc (hold heap_new SmV)

def RdT (w:World)(ao:Option Addr)(ss:List ByteArray):Prop:=∀ i s,ss[i]?=some s→∃ b o,ao=some ⟨b,o,none⟩∧b<w.heap.size∧s.size≤maxLen∧w.cell? ⟨b,o+i,none⟩=some (.string s)
theorem RdT.below {W w:World}{ao:Option Addr}{ss:List ByteArray}(h:RdT W ao ss)(hb:Below W.heap.size W w):RdT w ao ss:=by
 intro i s hi
 obtain⟨b,o,rfl,hl,hs,hc⟩:=h i s hi
 exact⟨b,o,rfl,Nat.lt_of_lt_of_le hl hb.size,hs,(hb.cell hl).trans hc⟩
def SmT (s:ByteArray):Prop:=s.size≤1048576
set_option maxRecDepth 100000 in
theorem lEqStringS {a1 a2:Option Addr}{c1 c2:Nat}{ss:List ByteArray}{w:World}(h1:RdT w a1 ss)(h2:RdT w a2 ss)(hn:ss.length≤3000000):
  Calls Tryz.prog 25 #[.slice a1 ss.length c1,.slice a2 ss.length c2] w fun e w'=>e=.returned (.bool true)∧Below w.heap.size w w':=by
 have bn:(ss.length:Int)≤3000000:=by omega
 go_enter Tryz.func25,Tryz.ntmps25
 go_wp2_with fail
 go_loopw [5] (fun i wr=>∃ k:Nat,i=.int .i64 k∧k≤ss.length∧Below w.heap.size w wr) (fun i _=>ss.length - (intOf i).toNat)
 case atStart=>exact⟨0,rfl,Nat.zero_le _,Below.refl _ _⟩
 case round =>
  obtain⟨k,rfl,hk,hb⟩:=hrel
  by_cases hkl:k<ss.length
  ·obtain⟨b1,o1,rfl,_,_,p0⟩:=h1.below hb k ss[k] (List.getElem?_eq_getElem hkl)
   obtain⟨b2,o2,rfl,_,_,q0⟩:=h2.below hb k ss[k] (List.getElem?_eq_getElem hkl)
   generalize ss[k]=v at *;have bk:(k:Int)<ss.length:=by omega
   clear h1 h2;go_wp2_with fail
   go_quiet (fail)
   go_wp2_with fail;go_roundw
   case rel=>exact⟨k+1,by go_num,hkl,⟨hb.os,hb.tape,hb.output,hb.size,hb.block⟩⟩
   case measure=>simp only[intOf];omega
  ·obtain rfl:k=ss.length:=by omega
   go_wp2_with fail;go_ret
   exact⟨rfl,hb⟩

end Pg
end Go.Proofs.YtllbachngocmnaaGreatDoor
namespace Go.Proofs.YtllbachngocmnaaGreatDoor
namespace Nd

def nd (op n:Int)(s:List UInt8)(kids:List Data):Data :=
 .slice kids [.lit (.int .i64 op),.lit (.int .i64 n),.lit (.string s)]

theorem nd_inj {op n op' n':Int}{s s':List UInt8}{k k':List Data}(h:nd op n s k=nd op' n' s' k'):op=op'∧n=n'∧s=s'∧k=k':=by
 simp only[nd,Data.slice.injEq,List.cons.injEq,Data.lit.injEq,Lit.int.injEq,Lit.string.injEq,true_and,and_true] at h
 exact⟨h.2.1,h.2.2.1,h.2.2.2,h.1⟩

theorem tree_ind {P:Data→Prop}(h:∀ ks lab,(∀ t∈ks,P t)→P (.slice ks lab))(h1:∀ t,(∀ ks lab,t≠.slice ks lab)→P t)(t:Data):P t:=by
 match t with
 | .slice ks lab=>exact h ks lab (fun t ht=>tree_ind h h1 t)
 | .lit l=>exact h1 _ (by simp)
 | .nil=>exact h1 _ (by simp)
 | .ptr d=>exact h1 _ (by simp)
 | .agg ps=>exact h1 _ (by simp)
 | .iface s d=>exact h1 _ (by simp)
termination_by SizeOf.sizeOf t
decreasing_by
 have:=List.sizeOf_lt_of_mem ht
 simp;omega

def kidsOf:Data→List Data
 | .slice ks _=>ks
 | _=>[]

mutual
def dep:Data→Nat
 | .slice ks _=>deps ks+1
 | _=>1
def deps:List Data→Nat
 | []=>0
 | t::ts=>max (dep t) (deps ts)
end
mutual
def cnt:Data→Nat
 | .slice ks _=>cnts ks+1
 | _=>1
def cnts:List Data→Nat
 | []=>0
 | t::ts=>cnt t+cnts ts
end

theorem kids_nd (op n:Int)(s:List UInt8)(ks:List Data):kidsOf (nd op n s ks)=ks:=rfl
theorem dep_nd (op n:Int)(s:List UInt8)(ks:List Data):dep (nd op n s ks)=deps ks+1:=by simp[nd,dep]
theorem cnt_nd (op n:Int)(s:List UInt8)(ks:List Data):cnt (nd op n s ks)=cnts ks+1:=by simp[nd,cnt]
theorem dep_kids (t:Data):dep t=deps (kidsOf t)+1:=by cases t <;> simp[dep,deps,kidsOf]
theorem cnt_kids (t:Data):cnt t=cnts (kidsOf t)+1:=by cases t <;> simp[cnt,cnts,kidsOf]

theorem deps_mem {t:Data}:∀ {ts:List Data},t∈ts→dep t≤deps ts
 | a::ts,h=>by
  simp only[deps];rcases List.mem_cons.1 h with rfl|h
  ·omega
  ·have:=deps_mem h;omega
theorem cnts_mem {t:Data}:∀ {ts:List Data},t∈ts→cnt t≤cnts ts
 | a::ts,h=>by
  simp only[cnts];rcases List.mem_cons.1 h with rfl|h
  ·omega
  ·have:=cnts_mem h;omega
theorem cnts_len:∀ ts:List Data,ts.length≤cnts ts
 | []=>by simp
 | t::ts=>by
  have:=cnts_len ts
  have:=cnt_kids t
  simp only[cnts,List.length_cons];omega
theorem deps_append:∀ (us bs:List Data),deps (us++bs)=max (deps us) (deps bs)
 | [],bs=>by simp[deps]
 | a::us,bs=>by simp only[List.cons_append,deps,deps_append us bs];omega
theorem cnts_append:∀ (us bs:List Data),cnts (us++bs)=cnts us+cnts bs
 | [],bs=>by simp[cnts]
 | a::us,bs=>by simp only[List.cons_append,cnts,cnts_append us bs];omega
theorem deps_take (ks:List Data)(k:Nat)(t:Data)(h:ks[k]?=some t):deps (ks.take (k+1))=max (deps (ks.take k)) (dep t):=by
 rw[List.take_add_one,h,deps_append]
 simp[deps]
theorem deps_le (ks:List Data)(i:Nat):deps (ks.take i)≤deps ks:=by
 have:=deps_append (ks.take i) (ks.drop i)
 rw[List.take_append_drop] at this
 omega
theorem cnts_take (ks:List Data)(k:Nat)(t:Data)(h:ks[k]?=some t):cnts (ks.take (k+1))=cnts (ks.take k)+cnt t:=by
 rw[List.take_add_one,h,cnts_append]
 simp[cnts]
theorem cnts_le (ks:List Data)(i:Nat):cnts (ks.take i)≤cnts ks:=by
 have:=cnts_append (ks.take i) (ks.drop i)
 rw[List.take_append_drop] at this
 omega
theorem dep_cnt (t:Data):dep t≤cnt t:=by
 induction t using tree_ind with
 | h ks lab ih =>
  have:∀ ts:List Data,(∀ t∈ts,dep t≤cnt t)→deps ts≤cnts ts:=by
   intro ts
   induction ts with
   | nil=>intro _;simp[deps]
   | cons a ts ih2 =>
    intro h;have h1:=h a (by simp);have h2:=ih2 fun t ht=>h t (by simp[ht]);simp only[deps,cnts];omega
  have:=this ks ih
  simp only[dep,cnt];omega
 | h1 t ht =>
  cases t <;> simp[dep,cnt];exact absurd rfl (ht _ _)

def below1:List Data→List (List Data)
 | []=>[]
 | t::ts=>(if kidsOf t=[] then [] else [kidsOf t])++below1 ts
def below:List (List Data)→List (List Data)
 | []=>[]
 | l::ls=>below1 l++below ls
theorem below1_append:∀ (us bs:List Data),below1 (us++bs)=below1 us++below1 bs
 | [],bs=>rfl
 | a::us,bs=>by simp only[List.cons_append,below1,below1_append us bs,List.append_assoc]
theorem below_append:∀ (us bs:List (List Data)),below (us++bs)=below us++below bs
 | [],bs=>rfl
 | a::us,bs=>by simp only[List.cons_append,below,below_append us bs,List.append_assoc]
theorem below_flat:∀ ls:List (List Data),below ls=below1 ls.flatten
 | []=>rfl
 | l::ls=>by simp only[below,List.flatten_cons,below1_append,below_flat ls]
theorem below1_ne:∀ (ts:List Data),∀ l∈below1 ts,l≠[]
 | [],l,h=>by simp[below1] at h
 | t::ts,l,h=>by
  simp only[below1,List.mem_append] at h;rcases h with h|h
  ·split at h
   ·simp at h
   ·simp at h;subst h;assumption
  ·exact below1_ne ts l h
theorem below1_len:∀ (ts:List Data),(below1 ts).length≤ts.length
 | []=>by simp[below1]
 | t::ts=>by
  have:=below1_len ts
  simp only[below1,List.length_append,List.length_cons]
  split <;> simp <;> omega
theorem below1_deps:∀ (ts:List Data),deps ts=if ts=[] then 0 else deps (below1 ts).flatten+1
 | []=>by simp[deps]
 | t::ts=>by
  have h:=below1_deps ts;have hk:=dep_kids t;have h0:deps (if kidsOf t=[] then ([]:List (List Data)) else [kidsOf t]).flatten=deps (kidsOf t):=by
   split
   ·rename_i e;rw[e];simp
   ·simp
  rw[if_neg (by simp)]
  simp only[deps,below1,List.flatten_append,deps_append,h0]
  rw[h]
  split
  ·rename_i e;subst e;simp[below1,deps];omega
  ·omega
theorem below1_cnts:∀ (ts:List Data),cnts ts=cnts (below1 ts).flatten+ts.length
 | []=>by simp[cnts,below1]
 | t::ts=>by
  have h:=below1_cnts ts;have hk:=cnt_kids t;have h0:cnts (if kidsOf t=[] then ([]:List (List Data)) else [kidsOf t]).flatten=cnts (kidsOf t):=by
   split
   ·rename_i e;rw[e];simp
   ·simp
  simp only[cnts,below1,List.flatten_append,cnts_append,h0,List.length_cons];omega
theorem below1_take {ts:List Data}{k:Nat}{t:Data}(h:ts[k]?=some t):below1 (ts.take (k+1))=below1 (ts.take k)++if kidsOf t=[] then [] else [kidsOf t]:=by
 rw[List.take_add_one,h,below1_append]
 simp[below1]
theorem below_take {ls:List (List Data)}{k:Nat}{l:List Data}(h:ls[k]?=some l):below (ls.take (k+1))=below (ls.take k)++below1 l:=by
 rw[List.take_add_one,h,below_append]
 simp[below]

end Nd
end Go.Proofs.YtllbachngocmnaaGreatDoor
namespace Go.Proofs.YtllbachngocmnaaGreatDoor.Dec

def okB (n:Int):Bool:=decide (-9000000000000≤n)&&decide (n≤9000000000000)
theorem okB_true {n:Int}(h1 : -9000000000000≤n)(h2:n≤9000000000000):okB n=true:=by simp[okB,h1,h2]
theorem okB_false {n:Int}(h:n < -9000000000000∨9000000000000<n):okB n=false:=by simp[okB];omega
theorem of_okB {n:Int}(h:okB n=true) : -9000000000000≤n∧n≤9000000000000:=by simpa [okB] using h
theorem of_okB_false {n:Int}(h:okB n=false):n < -9000000000000∨9000000000000<n:=by
 have:¬ (-9000000000000≤n∧n≤9000000000000):=fun hh=>by rw[okB_true hh.1 hh.2] at h;cases h
 omega

end Go.Proofs.YtllbachngocmnaaGreatDoor.Dec
namespace Go.Proofs.YtllbachngocmnaaGreatDoor
namespace Ty
open Nd

def opOf:Data→Int
 | .slice _ (.lit (.int _ op)::_)=>op
 | _=>0
def numOf:Data→Int
 | .slice _ (_::.lit (.int _ n)::_)=>n
 | _=>0
def txtOf:Data→List UInt8
 | .slice _ (_::_::.lit (.string s)::_)=>s
 | _=>[]
theorem op_nd (op n:Int)(s:List UInt8)(ks:List Data):opOf (nd op n s ks)=op:=rfl
theorem num_nd (op n:Int)(s:List UInt8)(ks:List Data):numOf (nd op n s ks)=n:=rfl
theorem txt_nd (op n:Int)(s:List UInt8)(ks:List Data):txtOf (nd op n s ks)=s:=rfl

def letB (b:Nat):Bool:=(decide (97≤b)&&decide (b≤122)) || (decide (65≤b)&&decide (b≤90))
def orderL:List (List UInt8):=[[66,69,71,73,78],[112,114,105,110,116],[105,102],[101,108,115,101],[119,104,105,108,101],[110,101,120,116],[100,101,108,101,116,101]]
def callL:List (List UInt8):=[[108,101,110,103,116,104],[115,117,98,115,116,114],[105,110,100,101,120],[105,110,116],[117,112,112,101,114],[108,111,119,101,114]]
def ownL:List (List UInt8):=[[78,82],[78,70]]
def orderB (s:List UInt8):Bool:=decide (s∈orderL)
def callB (s:List UInt8):Bool:=decide (s∈callL)
def freeB (s:List UInt8):Bool:=!orderB s&&!callB s&&!decide (s=[78,82])&&!decide (s=[78,70])
def keyB (s:List UInt8):Bool:=decide (s∈orderL++ownL) || callB s
theorem key_free (s:List UInt8):freeB s=!keyB s:=by
 unfold freeB keyB orderB ownL;generalize callB s=c
 by_cases h1:s∈orderL <;> by_cases h2:s=[78,82] <;> by_cases h3:s=[78,70] <;> cases c <;> simp[List.mem_append,h1,h2,h3]
def lettersB (s:List UInt8):Bool:=s.all fun b=>letB b.toNat
def nameB (s:List UInt8):Bool:=lettersB s&&(decide (0<s.length)&&decide (s.length≤8)&&freeB s)
def lineB (s:List UInt8):Bool:=s.all fun b=>decide (b.toNat≠10)
def escB:List UInt8→Bool
 | []=>true
 | [c]=>decide (c.toNat≠92)
 | c::d::r=>if c.toNat=92 then decide (d.toNat≠47)&&escB r else escB (d::r)
def rexB (s:List UInt8):Bool:=escB s&&lineB s

theorem line_cons (c:UInt8)(r:List UInt8):lineB (c::r)=(decide (c.toNat≠10)&&lineB r):=by simp[lineB]
theorem esc_one {c:UInt8}{r:List UInt8}(h:c.toNat≠92):escB (c::r)=escB r:=by
 cases r with
 | nil=>simp[escB,h]
 | cons d r=>rw[escB,if_neg h]
theorem esc_two {c d:UInt8}{r:List UInt8}(h:c.toNat=92):escB (c::d::r)=(decide (d.toNat≠47)&&escB r):=by rw[escB,if_pos h]
theorem esc_end {c:UInt8}(h:c.toNat=92):escB [c]=false:=by simp[escB,h]

def wordB (op n:Int)(s:List UInt8):Bool :=
 if op=1 then decide (0≤n)&&Dec.okB n&&decide (s=[])
 else decide (n=0)&&(if op=2 then lineB s else if op=3 then rexB s else if op=4∨op=5∨op=34 then nameB s else if op=28 then callB s else decide (s=[]))

def eB (op:Int):Bool:=decide (1≤op)&&decide (op≤28)
def stB (op:Int):Bool:=decide (29≤op)&&decide (op≤35)
def blB (op:Int):Bool:=decide (op=29)
def setB (op:Int):Bool:=decide (op=4) || decide (op=5)
def justB:List (Int→Bool)→List Int→Bool
 | [],[]=>true
 | p::ps,x::xs=>p x&&justB ps xs
 | _,_=>false
def kindB (op:Int)(ks:List Int):Bool :=
 if op=1∨op=2∨op=3∨op=4∨op=7∨op=8∨op=33 then justB [] ks
 else if op=5∨op=6∨op=22∨op=23∨op=34∨op=35 then justB [eB] ks
 else if (9≤op∧op≤21)∨op=24∨op=25 then justB [eB,eB] ks
 else if op=26∨op=27 then justB [setB,eB] ks
 else if op=28∨op=30 then ks.all eB
 else if op=29 then ks.all stB
 else if op=31 then justB [eB,blB] ks || justB [eB,blB,blB] ks
 else if op=32 then justB [eB,blB] ks
 else false
def nodeB (t:Data):Bool:=wordB (opOf t) (numOf t) (txtOf t)&&kindB (opOf t) ((kidsOf t).map opOf)

mutual
def allB:Data→Bool
 | .slice ks lab=>nodeB (.slice ks lab)&&allsB ks
 | _=>false
def allsB:List Data→Bool
 | []=>true
 | t::ts=>allB t&&allsB ts
end
theorem all_nd (op n:Int)(s:List UInt8)(ks:List Data):allB (nd op n s ks)=(nodeB (nd op n s ks)&&allsB ks):=by
 unfold nd;rw[allB]
theorem alls_append:∀ (us bs:List Data),allsB (us++bs)=(allsB us&&allsB bs)
 | [],bs=>by simp[allsB]
 | a::us,bs=>by simp only[List.cons_append,allsB,alls_append us bs,Bool.and_assoc]
theorem alls_all:∀ ts:List Data,allsB ts=ts.all allB
 | []=>rfl
 | t::ts=>by simp[allsB,alls_all ts]

def Nodes (ts:List Data):Prop:=∀ t∈ts,∃ op n s ks,t=nd op n s ks
theorem alls_below:∀ {ts:List Data},Nodes ts→allsB ts=(ts.all nodeB&&allsB (below1 ts).flatten)
 | [],_=>by simp[allsB,below1]
 | t::ts,h=>by
  obtain⟨op,n,s,ks,rfl⟩:=h t (by simp)
  have ih:=alls_below (ts:=ts) fun t ht=>h t (by simp[ht]);have h0:allsB (if kidsOf (nd op n s ks)=[] then ([]:List (List Data)) else [kidsOf (nd op n s ks)]).flatten=allsB ks:=by
   rw[kids_nd]
   split
   ·rename_i e;rw[e];simp
   ·simp
  simp only[allsB,below1,List.flatten_append,alls_append,h0,ih,all_nd,List.all_cons];cases nodeB (nd op n s ks) <;> cases allsB ks <;> cases ts.all nodeB <;> simp

def treeB (t:Data):Bool:=decide (dep t≤16)&&allB t
def zeroB (t:Data):Bool:=decide (opOf t=0)&&decide (numOf t=0)&&decide (txtOf t=[])&&decide (kidsOf t=[])

abbrev Ru:=Int × Data × Data
def ruleB (r:Ru):Bool:=(blB (opOf r.2.2)&&treeB r.2.2)&&(if r.1=1∨r.1=2 then zeroB r.2.1 else if r.1=3 then eB (opOf r.2.1)&&treeB r.2.1 else false)
def tidyB (rs:List Ru):Bool:=rs.all ruleB

end Ty
end Go.Proofs.YtllbachngocmnaaGreatDoor
